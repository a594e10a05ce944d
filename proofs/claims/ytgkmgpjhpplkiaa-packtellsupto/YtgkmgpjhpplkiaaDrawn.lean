/-
  Regions that draw their order: append of a row as one step of such a region; what is held there: nothing old turns.
-/
import Derived.Test.YtgkmgpjhpplkiaaMem2
import Derived.Deep.RegionHeld3
namespace Go.Proofs.Ytgkmgpjhpplkiaa
open Go.RowKit
set_option linter.unusedVariables false

/-- append of a row of bytes, whatever it is, to one that the call owns, as one step of a region that draws. -/
theorem step_append_row {ops : Array Oper} {o : Oper} {a : Act} {w : World} {K : Act → World → Prop} {Q : Exit → Act → World → Prop} {E : Prop} (hw : Region.wanted o (yielded ops a.tmps) = true) (s x : Operand)
    (ho : o.op = .call { callee := .builtin .append, args := #[s, x], argTypes := #[23, 23] })
    (base : Nat) (v xv : Value) (xs ys : List Int) (hs : a.eval s = v) (hown : Own base w v xs) (hx : a.eval x = xv) (hrow : Row w xv ys) (hfit : xs.length + ys.length ≤ 140737488355328) (hbase : base ≤ w.heap.size)
    (hK : ∀ v' w', Own base w' v' (xs ++ ys) → w.grownBy w' v.ownBlock → K (a.put o.dst v') w') : if Region.wanted o (yielded ops a.tmps) = true then Oper.wp Try.prog o a w K Q else E := by
  rw [if_pos hw]
  obtain ⟨i0, hi, hz0, hz1, hz2⟩ := info_parts infoByte
  have hb := hrow.bys
  obtain ⟨ao, cap, rfl, h1, h2, h3, h4, h5⟩ := hrow
  cases ao with
  | none =>
    have hc0 := h3 rfl
    have hl0 : ys = [] := List.eq_nil_of_length_eq_zero (by omega)
    subst hc0
    subst hl0
    have hrun := run_append_owned_none (P := Try.prog) (w := w) base 23 o.type 5 i0 1 Try.underlying23 hi v _ _ hown.1
    unfold Oper.wp
    simp [execOp, ho, resolve, invoke, builtin, hs, hx, hrun, Result.andThen]
    exact hK v w (by rw [List.append_nil]; exact hown) (World.grownBy.refl _ _)
  | some ad =>
    obtain ⟨v', w', hrun, r1, r2, _⟩ := run_append_own (P := Try.prog) (w := w) base 23 o.type 5 i0 (.int .u8 0) 1 1 Try.underlying23 hi hz0 hz1 hz2 rfl (by decide) v _ _ hown.1 ad ys.length cap (bv ys) (by rw [bv_length, Nat.mul_one]) (h4 ad rfl) (bv_one ys) (by unfold maxLen; omega) (by omega) hbase
    unfold Oper.wp
    simp [execOp, ho, resolve, invoke, builtin, hs, hx, hrun, Result.andThen]
    exact hK v' w' ⟨by rw [List.length_append, bv_append]; exact r1, hown.2.app hb⟩ r2

theorem held_size {w0 W : World} {A : Prop} (h : A ∧ Below w0.heap.size w0 W) : w0.heap.size ≤ W.heap.size := h.2.size
theorem held_below {w0 W : World} {A : Prop} (h : A ∧ Below w0.heap.size w0 W) : Below w0.heap.size w0 W := h.2
theorem held_row {w0 W : World} {A : Prop} {v : Value} {xs : List Int} (r : Row w0 v xs) (h : A ∧ Below w0.heap.size w0 W) : Row W v xs := r.below h.2
/-- Two cells that are read, and all that is old, as they were. -/
theorem held_step {w0 W W' : World} {a b : Addr} {u v : Value} (hs : Below w0.heap.size W W') (ha : a.block < w0.heap.size) (hb : b.block < w0.heap.size) (h : (W.cell? a = some u ∧ W.cell? b = some v) ∧ Below w0.heap.size w0 W) :
    (W'.cell? a = some u ∧ W'.cell? b = some v) ∧ Below w0.heap.size w0 W' :=
  ⟨⟨(hs.cell ha).trans h.1.1, (hs.cell hb).trans h.1.2⟩, h.2.trans hs⟩
theorem held_start {w0 : World} {a b : Addr} {u v : Value} (ha : w0.cell? a = some u) (hb : w0.cell? b = some v) : (w0.drew.cell? a = some u ∧ w0.drew.cell? b = some v) ∧ Below w0.heap.size w0 w0.drew :=
  ⟨⟨ha, hb⟩, (Below.refl _ _).drew⟩
end Go.Proofs.Ytgkmgpjhpplkiaa
