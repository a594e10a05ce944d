/-
  Rows of texts: read, owned by the call, appended to, held against each other (garrethelp's Plain).
-/
import Derived.Test.YtgkmgpjhpplkiaaHoldL
namespace Go.Proofs.Ytgkmgpjhpplkiaa
open Go.RowKit
set_option linter.unusedVariables false
set_option maxRecDepth 100000

theorem infoStr : (Try.prog.info? 9).map (fun i => (i.zero, i.size, i.bytes)) = some (some (.string ByteArray.empty), 1, 16) := by kernel_rfl
theorem SRow.nil (w : World) : SRow w (.slice none 0 0) [] := ⟨none, 0, rfl, Nat.le_refl _, Nat.zero_le _, fun _ => rfl, (fun a h => by cases h), (fun n h => by cases h)⟩
theorem SRow.of_len {w : World} {v : Value} {xs : List ByteArray} (h : SRow w v xs) : ∃ ao cap, v = .slice ao xs.length cap := by
  obtain ⟨ao, cap, hv, _⟩ := h; exact ⟨ao, cap, hv⟩
theorem SRow.len {w : World} {v : Value} {xs : List ByteArray} (h : SRow w v xs) : xs.length ≤ maxLen := by
  obtain ⟨_, _, _, h1, h2, _⟩ := h; omega
theorem SRow.small {w : World} {v : Value} {xs : List ByteArray} (h : SRow w v xs) : ∀ s ∈ xs, s.size ≤ maxLen := by
  obtain ⟨_, _, _, _, _, _, _, h2⟩ := h; exact h2
theorem SRow.mk {w : World} {b off cap : Nat} {xs : List ByteArray} (hl : xs.length ≤ cap) (hm : cap ≤ maxLen) (hc : ∀ i, i < xs.length → w.cell? ⟨b, off + i, none⟩ = some (.string (xs.getD i ByteArray.empty))) (hb : ∀ s ∈ xs, s.size ≤ maxLen) :
    SRow w (.slice (some ⟨b, off, none⟩) xs.length cap) xs := by
  refine ⟨_, cap, rfl, hl, hm, by simp, ?_, hb⟩
  intro a ha j hj
  obtain rfl := Option.some.inj ha
  rw [Addr.add_lit]
  exact hc j hj
theorem SRow.kept {w w' : World} {v : Value} {xs : List ByteArray} (h : SRow w v xs) (hk : ∀ b o u, (∃ off n cap, v = .slice (some ⟨b, off, none⟩) n cap) → w.cell? ⟨b, o, none⟩ = some u → w'.cell? ⟨b, o, none⟩ = some u) : SRow w' v xs := by
  by_cases h0 : xs = []
  · subst h0
    obtain ⟨ao, cap, rfl, h1, h2, h3, h4, h5⟩ := h
    exact ⟨ao, cap, rfl, h1, h2, h3, fun a _ j hj => by simp at hj, h5⟩
  · obtain ⟨b, off, cap, hv, hlt, hc⟩ := h.at (List.length_pos_iff.2 h0)
    have hm : xs.length ≤ cap ∧ cap ≤ maxLen := by
      obtain ⟨ao, c, hv', h1, h2, _⟩ := h
      rw [hv] at hv'
      simp at hv'
      omega
    have hw := h.small
    rw [hv]
    exact SRow.mk hm.1 hm.2 (fun i hi => hk _ _ _ ⟨_, _, _, hv⟩ (hc i hi)) hw
theorem SRow.below {w w' : World} {v : Value} {xs : List ByteArray} (h : SRow w v xs) (hb : Below w.heap.size w w') : SRow w' v xs :=
  h.kept fun b o _ _ hc => (hb.cell (p := ⟨b, o, none⟩) (World.block_lt_of_cell? w _ hc)).trans hc
theorem SRow.grown {w w' : World} {v : Value} {xs : List ByteArray} {r : Option Nat} (h : SRow w v xs) (hg : w.grownBy w' r) (hne : ∀ b off n cap, v = .slice (some ⟨b, off, none⟩) n cap → some b ≠ r) : SRow w' v xs :=
  h.kept fun b o u ⟨off, n, cap, hv⟩ hc => hg.cell hc (hne b off n cap hv)
/-- Texts as cells. -/
def sv (xs : List ByteArray) : List Value := xs.map Value.string
theorem sv_length (xs : List ByteArray) : (sv xs).length = xs.length := by simp [sv]
theorem sv_append (xs ys : List ByteArray) : sv (xs ++ ys) = sv xs ++ sv ys := by simp [sv]
theorem sv_one (xs : List ByteArray) : ∀ u ∈ sv xs, u.oneCell' = true := by
  intro u hu
  obtain ⟨s, _, rfl⟩ := List.mem_map.1 hu
  rfl
theorem sv_at {xs : List ByteArray} {j : Nat} (hj : j < xs.length) : (sv xs)[j]? = some (.string (xs.getD j ByteArray.empty)) := by
  simp [sv, List.getD, List.getElem?_eq_getElem hj]
theorem sv_get {xs : List ByteArray} {j : Nat} {u : Value} (h : (sv xs)[j]? = some u) : j < xs.length ∧ u = .string (xs.getD j ByteArray.empty) := by
  have hj : j < xs.length := by rw [← sv_length xs]; exact (List.getElem?_eq_some_iff.1 h).1
  rw [sv_at hj] at h
  exact ⟨hj, (Option.some.inj h).symm⟩

/-- A row of texts that the call owns: from 'base' on. -/
def SOwn (base : Nat) (w : World) (v : Value) (xs : List ByteArray) : Prop := w.ownsRow base 9 1 v xs.length (sv xs) ∧ ∀ s ∈ xs, s.size ≤ maxLen
theorem SOwn.row {base : Nat} {w : World} {v : Value} {xs : List ByteArray} (h : SOwn base w v xs) : SRow w v xs := by
  obtain ⟨ho, hb⟩ := h
  rcases ho.2 with ⟨rfl, hn⟩ | ⟨g, cap, cur, rfl, hbg, hg, hnc, hcm, hcs, htake⟩
  · have : xs = [] := List.eq_nil_of_length_eq_zero hn
    subst this; exact SRow.nil w
  · refine ⟨_, cap, rfl, hnc, hcm, by simp, ?_, hb⟩
    intro a ha j hj
    obtain rfl := Option.some.inj ha
    exact ho.cells (g := g) rfl j _ (sv_at hj)
theorem SOwn.nil (base : Nat) (w : World) : SOwn base w (.slice none 0 0) [] := ⟨World.ownsRow_nil _ _ _ _, fun n h => by cases h⟩
theorem SOwn.block {base : Nat} {w : World} {v : Value} {xs : List ByteArray} (h : SOwn base w v xs) : ∀ j, v.ownBlock = some j → base ≤ j ∧ j < w.heap.size := h.1.lt
theorem SOwn.alloc {base : Nat} {w : World} {v : Value} {xs : List ByteArray} (h : SOwn base w v xs) (o : Obj) : SOwn base (w.alloc o) v xs := ⟨h.1.alloc o, h.2⟩
theorem SOwn.kept {base : Nat} {w w' : World} {v : Value} {xs : List ByteArray} (h : SOwn base w v xs) (hb : Below w.heap.size w w') : SOwn base w' v xs :=
  ⟨h.1.kept (row := none) ⟨hb.os, hb.tape, hb.output, hb.size, fun k hk _ => hb.block k hk⟩ (by cases hv : v.ownBlock <;> simp), h.2⟩
theorem SOwn.mono {base base' : Nat} {w : World} {v : Value} {xs : List ByteArray} (h : SOwn base w v xs) (hb : base' ≤ base) : SOwn base' w v xs := by
  refine ⟨⟨h.1.1, ?_⟩, h.2⟩
  rcases h.1.2 with hn | ⟨g, cap, cur, hv, hbg, r⟩
  · exact .inl hn
  · exact .inr ⟨g, cap, cur, hv, Nat.le_trans hb hbg, r⟩
theorem SOwn.grown_below {base B : Nat} {w0 w w' : World} {v : Value} {xs : List ByteArray} (h : SOwn base w v xs) (hb : Below B w0 w) (hg : w.grownBy w' v.ownBlock) (hB : B ≤ base) (hs : B ≤ w.heap.size) : Below B w0 w' :=
  hb.grown hg hs (fun k e => Nat.le_trans hB (h.block k e).1)
/-- A row that lay there ahead of what the call owns stays when that grows. -/
theorem SOwn.elder {base : Nat} {w0 w w' : World} {v u : Value} {xs ys : List ByteArray} (h : SOwn w0.heap.size w v xs) (hr : SRow w0 u ys) (hb : Below w0.heap.size w0 w) (hg : w.grownBy w' v.ownBlock) : SRow w' u ys :=
  hr.below (h.grown_below hb hg (Nat.le_refl _) hb.size)
/-- One text in a new block. -/
theorem strs_new (w : World) (xs : List ByteArray) (cs : Array Value) (n : Nat) (hcs : cs = (sv xs).toArray) (hn : xs.length = n) (hm : n ≤ maxLen) (hs : ∀ s ∈ xs, s.size ≤ maxLen) :
    SRow (w.alloc (.cells cs 9)) (.slice (some ⟨w.heap.size, 0, none⟩) n n) xs := by
  subst hcs hn
  refine SRow.mk (Nat.le_refl _) hm (fun i hi => ?_) hs
  rw [Nat.zero_add, (Blk.new w _ 9).cell i, List.getElem?_toArray, sv_at hi]

end Go.Proofs.Ytgkmgpjhpplkiaa
