/-
  What NandPlays' programming arm holds.
-/
import Derived.Test.YthiehpofmlbehaaTwoD5
import Derived.Test.YthiehpofmlbehaaHelp2
namespace Go.Proofs.Ythiehpofmlbehaa
open Go.RowKit
set_option linter.unusedVariables false
set_option maxRecDepth 100000

theorem Row.onlyN {l : List Nat} {w w' : World} {v : Value} {xs : List Int} (h : Row w v xs) (hg : Only l w w') (hn : 0 < xs.length → ∀ b off n cap, v = .slice (some ⟨b, off, none⟩) n cap → b ∉ l) : Row w' v xs := by
  by_cases h0 : xs = []
  · subst h0
    obtain ⟨ao, cap, rfl, h1, h2, h3, h4, h5⟩ := h
    exact ⟨ao, cap, rfl, h1, h2, h3, fun a _ j u hu => by simp [bv] at hu, h5⟩
  · exact h.only hg (hn (List.length_pos_iff.2 h0))
theorem only_more5 {l l' : List Nat} {w w' : World} (h : Only l w w') (hl : ∀ k, k ∈ l → k ∈ l') : Only l' w w' := ⟨h.os, h.tape, h.output, h.size, fun k hk hn => h.block k hk (fun e => hn (hl k e))⟩
theorem ownsRow_only5 {l : List Nat} {w w' : World} {base g n cap : Nat} {e : TypeId} {xs : List Value} (h : w.ownsRow base e 1 (.slice (some ⟨g, 0, none⟩) n cap) n xs) (hg : Only l w w') (hn : g ∉ l) : w'.ownsRow base e 1 (.slice (some ⟨g, 0, none⟩) n cap) n xs := by
  refine ⟨h.1, ?_⟩
  rcases h.2 with ⟨hv, _⟩ | ⟨g', cap', cur, hv, hb, hh, r⟩
  · simp at hv
  · refine .inr ⟨g', cap', cur, hv, hb, ?_, r⟩
    have e1 : g = g' := by simpa using (congrArg (fun v => match v with | Value.slice (some a) _ _ => a.block | _ => 0) hv)
    have hlt := (Array.getElem?_eq_some_iff.1 hh).1
    rw [hg.block g' hlt (by rw [← e1]; exact hn)]
    exact hh
theorem own_row5 {w : World} {base g : Nat} {xs : List Int} (hb : Bys xs) (ho : w.ownsRow base 5 1 (.slice (some ⟨g, 0, none⟩) (xs.length + 3) (xs.length + 3)) (xs.length + 3) (bv xs ++ List.replicate 3 (.int .u8 71))) : Row w (.slice (some ⟨g, 0, none⟩) xs.length (xs.length + 3)) xs := by
  have hcut := owns_cut ho (n := xs.length) (by omega)
  rw [List.take_left' (bv_length xs)] at hcut
  exact Own.row (base := base) ⟨hcut, hb⟩

/-- Two cells of the block of the thing that is done, and the block. -/
def HoldP (ob : Nat) (u v : Value) (cs : Array Value) (t : TypeId) (w : World) : Prop := (w.cell? ⟨ob, 1, none⟩ = some u ∧ w.cell? ⟨ob, 2, none⟩ = some v) ∧ Blk w ob cs t
theorem HoldP.of {ob : Nat} {u v : Value} {cs : Array Value} {t : TypeId} {w : World} (h : Blk w ob cs t) (h1 : cs[1]? = some u) (h2 : cs[2]? = some v) : HoldP ob u v cs t w := ⟨⟨(h.cell 1).trans h1, (h.cell 2).trans h2⟩, h⟩
theorem HoldP.only {ob : Nat} {u v : Value} {cs : Array Value} {t : TypeId} {l : List Nat} {w w' : World} (hg : Only l w w') (hn : ob ∉ l) (h : HoldP ob u v cs t w) : HoldP ob u v cs t w' := by
  have h2 := h.2.only hg hn
  refine ⟨⟨?_, ?_⟩, h2⟩
  · have e := h.1.1; rw [h.2.cell 1] at e; rw [h2.cell 1]; exact e
  · have e := h.1.2; rw [h.2.cell 2] at e; rw [h2.cell 2]; exact e
theorem HoldP.still {ob : Nat} {u v : Value} {cs : Array Value} {t : TypeId} {w w' : World} (hg : Still w w') (h : HoldP ob u v cs t w) : HoldP ob u v cs t w' := h.only (only_below (hg _)) (l := []) (by simp)
/-- A store into a block that is of another type than bytes. -/
theorem TwoD.op {w0 w w' : World} {base m ob : Nat} {L : DLay} {M : RLy} {v : Value} {S S2 : PSt} {N N2 : DSt} {cs : Array Value} {t : TypeId} (h : TwoD w0 base w L M v S N m S2 N2) (hb : Blk w ob cs t) (ht : t ≠ 5) (ho : base ≤ ob) (hg : Only [ob] w w') : TwoD w0 base w' L M v S N m S2 N2 := by
  obtain ⟨l1, l2, l3, l4, l5⟩ := h.lt
  have hw := h.kd.wb
  obtain ⟨b1, b2, b3, b4⟩ := h.kd.dev.chip.lt
  obtain ⟨f, hf, hpg⟩ := h.kd.dev.chip.pgs
  have hmb : ob ≠ L.mb := by
    intro e
    obtain ⟨D, ⟨es, clock, hh, _⟩, _⟩ := hf
    unfold Blk at hb
    rw [e, hh] at hb
    simp at hb
  have hmo : ∀ k, L.mo = some k → k ≠ ob := by
    intro k hk e
    rcases h.kd.dev.pow.map with ⟨h1, _⟩ | ⟨b, h1, _, ⟨es, clock, hh, _⟩, _⟩
    · rw [hk] at h1; cases h1
    · rw [hk] at h1
      cases h1
      unfold Blk at hb
      rw [← e, hh] at hb
      simp at hb
  refine ⟨⟨⟨h.kd.dev.pow.only hg (by simp; omega) (fun k hk hm => hmo k hk (by simpa using hm)), ⟨h.kd.dev.chip.blk.only hg (by simp; omega), h.kd.dev.chip.nxt.only hg (by simp; omega), h.kd.dev.chip.ers.only hg (by simp; omega), ⟨f, hf.only hg (by simp; exact fun e => hmb e.symm), ⟨fun i k v hi hk hv => ?_, hpg.non, hpg.inj⟩⟩, h.kd.dev.chip.lt, h.kd.dev.chip.ne⟩, h.kd.dev.mo⟩, h.kd.lo, Nat.le_trans h.kd.size hg.size, h.kd.wb, hg.below h.kd.below (by simp; omega) (Nat.le_trans h.kd.wb h.kd.size)⟩, h.rd.only hg (by simp; omega) ⟨by simp; omega, by simp; omega, by simp; omega, by simp; omega⟩ (fun h0 b off n cap e hm => by have := h.old h0 b off n cap e; simp at hm; omega), h.lt, h.ge, h.ne, h.old⟩
  obtain ⟨g, cap, rfl, ho', hn, hx⟩ := hpg.own i k v hi hk hv
  refine ⟨g, cap, rfl, ho'.only hg (fun j hj hm => ?_), hn, hx⟩
  cases hj
  simp at hm
  rcases ho'.1.2 with ⟨h1, _⟩ | ⟨g', cap', cur, hv', _, hh, _⟩
  · simp at h1
  · have e2 : g = g' := by simpa using (congrArg (fun v => match v with | Value.slice (some a) _ _ => a.block | _ => 0) hv')
    unfold Blk at hb
    rw [← hm, e2, hh] at hb
    simp at hb
    exact ht hb.2.symm

/-- What the fitting region holds: the document's next page, the block's number, the page's size. -/
def HoldF (c nb i ob gg : Nat) (u : Value) (x b e : Int) (w0 w : World) : Prop :=
  (w.cell? ⟨c, 7, none⟩ = some u ∧ w.cell? ⟨nb, i, none⟩ = some (.int .i64 x) ∧ w.cell? ⟨ob, 1, none⟩ = some (.int .i64 b) ∧ w.cell? ⟨gg, 4, none⟩ = some (.int .i64 e)) ∧ Only [ob] w0 w ∧ w0.heap.size ≤ w.heap.size
theorem HoldF.below {c nb i ob gg : Nat} {u : Value} {x b e : Int} {w0 w w' : World} (hb : Below w.heap.size w w') (h : HoldF c nb i ob gg u x b e w0 w) : HoldF c nb i ob gg u x b e w0 w' := by
  have k : ∀ {b o : Nat} {v : Value}, w.cell? ⟨b, o, none⟩ = some v → w'.cell? ⟨b, o, none⟩ = some v := fun {b o v} hc => (hb.cell (p := ⟨b, o, none⟩) (World.block_lt_of_cell? w _ hc)).trans hc
  exact ⟨⟨k h.1.1, k h.1.2.1, k h.1.2.2.1, k h.1.2.2.2⟩, h.2.1.trans (only_below hb), Nat.le_trans h.2.2 hb.size⟩
theorem kept2 (w : World) (ob : Nat) (v : Value) {u : Value} (h : w.cell? ⟨ob, 1, none⟩ = some u) : (w.setCell ⟨ob, 2, none⟩ v).cell? ⟨ob, 1, none⟩ = some u := by
  obtain ⟨cs, t, hb⟩ : ∃ (cs : Array Value) (t : TypeId × (Nat × Nat)), w.heap[ob]? = some (.cells cs t.1 t.2) := by
    unfold World.cell? at h
    simp only at h
    revert h
    cases hh : w.heap[ob]? with
    | none => intro h; simp at h
    | some o => cases o <;> intro h <;> first | exact ⟨_, (_, _), rfl⟩ | simp at h
  simp [World.cell?, World.setCell, Array.getElem?_modify, hb] at h ⊢
  exact h
theorem HoldF.set {c nb i ob gg : Nat} {u : Value} {x b e : Int} {w0 w : World} (v : Value) (h1 : c ≠ ob) (h2 : nb ≠ ob) (h3 : gg ≠ ob) (h : HoldF c nb i ob gg u x b e w0 w) : HoldF c nb i ob gg u x b e w0 (w.setCell ⟨ob, 2, none⟩ v) := by
  refine ⟨⟨?_, ?_, ?_, ?_⟩, h.2.1.trans (only_grown (grown_setCell w ob 2 v) (fun k e => by cases e; simp)), by simpa using h.2.2⟩
  · rw [World.cell?_of_block (w := w) (Below.heap_setCell _ _ _ _ h1)]; exact h.1.1
  · rw [World.cell?_of_block (w := w) (Below.heap_setCell _ _ _ _ h2)]; exact h.1.2.1
  · have hh := h.1.2.2.1
    exact kept2 w ob v hh
  · rw [World.cell?_of_block (w := w) (Below.heap_setCell _ _ _ _ h3)]; exact h.1.2.2.2
end Go.Proofs.Ythiehpofmlbehaa
