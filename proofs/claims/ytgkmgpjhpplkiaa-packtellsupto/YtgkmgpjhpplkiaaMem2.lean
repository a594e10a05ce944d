/-
  Arguments that are slices, opened; append of a row of bytes to one that the call owns.
-/
import Derived.Test.YtgkmgpjhpplkiaaCore
import Derived.Laws.AppendOwnNone
import Derived.ProofKit
import Derived.SliceStrings
namespace Go.Proofs.Ytgkmgpjhpplkiaa
open Go.RowKit Go.ChangeShapes Go.WideShapes
set_option linter.unusedVariables false

/-- A slice of integers of a kind. -/
def IRow (k : IntKind) (w : World) (v : Value) (xs : List Int) : Prop :=
  ∃ ao cap, v = .slice ao xs.length cap ∧ xs.length ≤ cap ∧ cap ≤ maxLen ∧ (ao = none → cap = 0) ∧ (∀ a, ao = some a → ∀ i, i < xs.length → w.cell? (a.add i) = some (.int k (xs.getD i 0))) ∧ ∀ n ∈ xs, (Lit.int k n).wf = true

/-- A slice of texts. -/
def SRow (w : World) (v : Value) (xs : List ByteArray) : Prop :=
  ∃ ao cap, v = .slice ao xs.length cap ∧ xs.length ≤ cap ∧ cap ≤ maxLen ∧ (ao = none → cap = 0) ∧ (∀ a, ao = some a → ∀ i, i < xs.length → w.cell? (a.add i) = some (.string (xs.getD i ByteArray.empty))) ∧ ∀ s ∈ xs, s.size ≤ maxLen

section
variable {P : Program} {w : World} {H : Type} {enc : TypeId × Value → H}

theorem irow_of_open {t e : TypeId} {k : IntKind} {fuel : Nat} {b : Option Addr} {len cap : Nat} {x : DataW H × List MemPlace} (ht : P.underlying t = some (.slice e)) (he : P.underlying e = some (.int k)) (hc : P.cellsOf e = 1)
    (h : DataW.trod enc P w 0 (fun _ => true) true fuel t (Value.slice b len cap).cells.toList = some x) : ∃ xs, IRow k w (.slice b len cap) xs := by
  rcases open_ints ht he hc h with ⟨hcs, _⟩ | ⟨a, l, c, zs, hcs, _, hl, hm, hz, _, hcell, hwz⟩
  · simp [Value.cells] at hcs
    obtain ⟨rfl, rfl, rfl⟩ := hcs
    exact ⟨[], none, 0, rfl, Nat.le_refl _, Nat.zero_le _, fun _ => rfl, (fun a h => by cases h), (fun n h => by cases h)⟩
  · simp [Value.cells] at hcs
    obtain ⟨rfl, rfl, rfl⟩ := hcs
    simp only [if_true] at hz
    refine ⟨zs.take len, some a, cap, ?_, ?_, hm, by simp, ?_, fun n h => hwz n (List.mem_of_mem_take h)⟩
    · rw [List.length_take, Nat.min_eq_left (by omega)]
    · rw [List.length_take]; omega
    · intro a' ha i hi
      obtain rfl := Option.some.inj ha
      rw [List.length_take] at hi
      rw [hcell i (by omega)]
      simp [List.getD, show i < len by omega]

theorem srow_of_open {t e : TypeId} {fuel : Nat} {b : Option Addr} {len cap : Nat} {x : DataW H × List MemPlace} (ht : P.underlying t = some (.slice e)) (he : P.underlying e = some .string) (hc : P.cellsOf e = 1)
    (h : DataW.trod enc P w 0 (fun _ => true) true fuel t (Value.slice b len cap).cells.toList = some x) : ∃ xs, SRow w (.slice b len cap) xs := by
  rcases open_strings ht he hc h with ⟨hcs, _⟩ | ⟨a, l, c, zs, hcs, _, hl, hm, hz, _, hcell, hwz⟩
  · simp [Value.cells] at hcs
    obtain ⟨rfl, rfl, rfl⟩ := hcs
    exact ⟨[], none, 0, rfl, Nat.le_refl _, Nat.zero_le _, fun _ => rfl, (fun a h => by cases h), (fun n h => by cases h)⟩
  · simp [Value.cells] at hcs
    obtain ⟨rfl, rfl, rfl⟩ := hcs
    simp only [if_true] at hz
    refine ⟨zs.take len, some a, cap, ?_, ?_, hm, by simp, ?_, fun n h => hwz n (List.mem_of_mem_take h)⟩
    · rw [List.length_take, Nat.min_eq_left (by omega)]
    · rw [List.length_take]; omega
    · intro a' ha i hi
      obtain rfl := Option.some.inj ha
      rw [List.length_take] at hi
      rw [hcell i (by omega)]
      simp [List.getD, show i < len by omega]
end

theorem wf_u8 {n : Int} (h : (Lit.int .u8 n).wf = true) : 0 ≤ n ∧ n < 256 := by
  simp [Lit.wf, IntKind.min, IntKind.max, IntKind.signed, IntKind.bits] at h; omega

/-- A slice of bytes that came in is a row of bytes. -/
theorem IRow.bytes {w : World} {v : Value} {xs : List Int} (h : IRow .u8 w v xs) : Row w v xs := by
  obtain ⟨ao, cap, hv, h1, h2, h3, h4, h5⟩ := h
  refine ⟨ao, cap, hv, h1, h2, h3, ?_, fun n hn => wf_u8 (h5 n hn)⟩
  intro a ha j u hu
  obtain ⟨hj, rfl⟩ := bv_get hu
  exact h4 a ha j hj

/-- append of a row of bytes, whatever it is, to one that the call owns. -/
theorem wpList_append_row {w : World} {ops : Array Oper} {rest : List Oper} {o : Oper} {a : Act} {Q : Exit → Act → World → Prop} (hgd : o.guard = none) (s x : Operand)
    (ho : o.op = .call { callee := .builtin .append, args := #[s, x], argTypes := #[23, 23] })
    (base : Nat) (v xv : Value) (xs ys : List Int) (hs : a.eval s = v) (hown : Own base w v xs) (hx : a.eval x = xv) (hrow : Row w xv ys) (hfit : xs.length + ys.length ≤ 140737488355328) (hbase : base ≤ w.heap.size)
    (h : ∀ v' w', Own base w' v' (xs ++ ys) → w.grownBy w' v.ownBlock → wpList Try.prog ops Q rest (a.put o.dst v') w') : wpList Try.prog ops Q (o :: rest) a w := by
  obtain ⟨i0, hi, hz0, hz1, hz2⟩ := info_parts infoByte
  have hb := hrow.bys
  obtain ⟨ao, cap, rfl, h1, h2, h3, h4, h5⟩ := hrow
  cases ao with
  | none =>
    have hc0 := h3 rfl
    have hl0 : ys = [] := List.eq_nil_of_length_eq_zero (by omega)
    subst hc0
    subst hl0
    refine wpList_append_own_none hgd s x 23 ho base 5 i0 1 Try.underlying23 hi v _ _ hs hown.1 hx ?_
    exact h v w (by rw [List.append_nil]; exact hown) (World.grownBy.refl _ _)
  | some ad =>
    refine wpList_append_own w hgd s x 23 ho base 5 i0 (.int .u8 0) 1 1 Try.underlying23 hi hz0 hz1 hz2 rfl (by decide) v _ _ hs hown.1 ad ys.length cap (bv ys) hx (by rw [bv_length, Nat.mul_one]) (h4 ad rfl) (bv_one ys) (by unfold maxLen; omega) (by omega) hbase ?_
    intro v' w' ho' hg' _
    exact h v' w' ⟨by rw [List.length_append, bv_append]; exact ho', hown.2.app hb⟩ hg'

/-- One byte in a new block. -/
theorem row_new1 (w : World) (x : Int) (hx : 0 ≤ x ∧ x < 256) : Row (w.alloc (.cells #[.int .u8 x] 5)) (.slice (some ⟨w.heap.size, 0, none⟩) 1 1) [x] := by
  refine Row.mk (xs := [x]) (off := 0) (by simp) (by unfold maxLen; simp) ?_ ?_
  · intro i hi
    match i, hi with
    | 0, _ => simp
  · intro z hz
    simp at hz
    subst hz
    exact hx

theorem Own.alloc {base : Nat} {w : World} {v : Value} {xs : List Int} (h : Own base w v xs) (o : Obj) : Own base (w.alloc o) v xs := ⟨h.1.alloc o, h.2⟩

theorem byte_of (v : Int) (k : Nat) : 0 ≤ v / 2 ^ (8 * k) % 256 ∧ v / 2 ^ (8 * k) % 256 < 256 := ⟨Int.emod_nonneg _ (by omega), Int.emod_lt_of_pos _ (by omega)⟩

theorem Own.nil (base : Nat) (w : World) : Own base w (.slice none 0 0) [] := ⟨World.ownsRow_nil _ _ _ _, Bys.nil⟩

/-- An owned row that is not empty, written out. -/
theorem Own.form {base : Nat} {w : World} {v : Value} {xs : List Int} (h : Own base w v xs) (h0 : 0 < xs.length) : ∃ g cap, v = .slice (some ⟨g, 0, none⟩) xs.length cap ∧ base ≤ g ∧ g < w.heap.size ∧ xs.length ≤ cap := by
  rcases h.1.2 with ⟨_, hn⟩ | ⟨g, cap, cur, hv, hbg, hg, hnc, hcm, hcs, htake⟩
  · omega
  · exact ⟨g, cap, hv, hbg, (h.1.lt g (by rw [hv]; rfl)).2, hnc⟩
theorem Own.cellAt {base : Nat} {w : World} {g n cap : Nat} {xs : List Int} (h : Own base w (.slice (some ⟨g, 0, none⟩) n cap) xs) (hn : xs.length = n) (j : Nat) (hj : j < n) : w.cell? ⟨g, j, none⟩ = some (.int .u8 (xs.getD j 0)) := by
  subst hn
  rw [h.1.cellAt j (by omega), bv_at hj]
theorem Own.frozenAt {base : Nat} {w : World} {g n cap : Nat} {xs : List Int} (h : Own base w (.slice (some ⟨g, 0, none⟩) n cap) xs) (hn : xs.length = n) (j : Nat) : w.frozen? ⟨g, j, none⟩ = false := by
  subst hn
  exact h.1.frozenAt j
/-- A byte is stored into an owned row. -/
theorem Own.stored {base : Nat} {w : World} {g n cap : Nat} {xs : List Int} (h : Own base w (.slice (some ⟨g, 0, none⟩) n cap) xs) (hn : xs.length = n) (j : Nat) (y : Int) (hy : 0 ≤ y ∧ y < 256) :
    Own base (w.setCell ⟨g, j, none⟩ (.int .u8 y)) (.slice (some ⟨g, 0, none⟩) n cap) (xs.set j y) := by
  subst hn
  refine ⟨?_, ?_⟩
  · have := (h.1.stored j (.int .u8 y)).1
    rw [List.length_set]
    rwa [show (bv xs).set j (.int .u8 y) = bv (xs.set j y) from by simp [bv, List.map_set]] at this
  · intro x hx
    rcases List.mem_or_eq_of_mem_set hx with h' | rfl
    · exact h.2 x h'
    · exact hy

/-- Nothing old turns when a row that the call owns grows. -/
theorem Own.grown_below {base B : Nat} {w0 w w' : World} {v : Value} {xs : List Int} (h : Own base w v xs) (hb : Below B w0 w) (hg : w.grownBy w' v.ownBlock) (hB : B ≤ base) (hs : B ≤ w.heap.size) : Below B w0 w' :=
  hb.grown hg hs (fun k e => Nat.le_trans hB (h.block k e).1)

/-- A row that lies elsewhere stays while an owned one grows: it was there before the call's own blocks. -/
theorem Row.grown {w w' : World} {v : Value} {xs : List Int} {r : Option Nat} (h : Row w v xs) (hg : w.grownBy w' r) (hr : ∀ k, r = some k → ∀ o u, w.cell? ⟨k, o, none⟩ = some u → w'.cell? ⟨k, o, none⟩ = some u) : Row w' v xs := by
  refine h.kept fun b o u hc => ?_
  by_cases e : some b = r
  · exact hr b e.symm o u hc
  · exact hg.cell hc e

theorem Row.caps {w : World} {ao : Option Addr} {n cap : Nat} {xs : List Int} (h : Row w (.slice ao n cap) xs) : n = xs.length ∧ n ≤ cap ∧ cap ≤ maxLen := by
  obtain ⟨ao', cap', hv, h1, h2, h3, h4, h5⟩ := h
  simp at hv
  obtain ⟨rfl, rfl, rfl⟩ := hv
  exact ⟨rfl, h1, h2⟩

/-- The first bytes of a row. -/
theorem Row.cut {w : World} {ao : Option Addr} {n cap : Nat} {xs : List Int} (h : Row w (.slice ao n cap) xs) (k : Nat) (hk : k ≤ n) : Row w (.slice ao k cap) (xs.take k) := by
  obtain ⟨ao', cap', hv, h1, h2, h3, h4, h5⟩ := h
  simp at hv
  obtain ⟨rfl, rfl, rfl⟩ := hv
  refine ⟨ao, cap, by rw [List.length_take, Nat.min_eq_left hk], by rw [List.length_take]; omega, h2, h3, ?_, h5.take k⟩
  intro a ha j u hu
  obtain ⟨hj, rfl⟩ := bv_get hu
  rw [List.length_take] at hj
  rw [h4 a ha j _ (bv_at (by omega))]
  simp [List.getD, show j < k by omega]
end Go.Proofs.Ytgkmgpjhpplkiaa
