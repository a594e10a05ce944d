/-
  Plain matter of garretlaw05.NandLoads; append to what Read answers; Load of too few bytes.
-/
import Derived.Test.YthlkilgfphbfcaaNandN
import Derived.Test.YthlkilgfphbfcaaRNandC
import Derived.Test.YthlkilgfphbfcaaAwake05
import Derived.Test.YthlkilgfphbfcaaGeoO5
import Derived.Test.YthlkilgfphbfcaaHelp
import Derived.Test.YthlkilgfphbfcaaDrawn
import Derived.ArgAppend
namespace Go.Proofs.Ythlkilgfphbfcaa
open Go.RowKit
set_option linter.unusedVariables false
set_option maxRecDepth 100000

/-- A row that grows, whether the call owns it or not. -/
theorem step_append_fresh {ops : Array Oper} {o : Oper} {a : Act} {w : World} {K : Act → World → Prop} {Q : Exit → Act → World → Prop} {E : Prop} (hw : Region.wanted o (yielded ops a.tmps) = true) (s x : Operand)
    (ho : o.op = .call { callee := .builtin .append, args := #[s, x], argTypes := #[43, 43] })
    (base : Nat) (v xv : Value) (xs ys : List Int) (hs : a.eval s = v) (hown : Fresh base w v xs) (hx : a.eval x = xv) (hrow : Row w xv ys) (hy : 0 < ys.length) (hfit : xs.length + ys.length ≤ 1000000) (hbase : base ≤ w.heap.size)
    (hK : ∀ v' w', Row w' v' (xs ++ ys) → Below base w w' → K (a.put o.dst v') w') : if Region.wanted o (yielded ops a.tmps) = true then Oper.wp Try.prog o a w K Q else E := by
  rcases hown with hown | ⟨g, rfl, hg, hr⟩
  · refine step_append_row hw s x ho base v xv xs ys hs hown hx hrow (by omega) hbase ?_
    intro v' w' ho' hg'
    exact hK v' w' ho'.row (hown.grown_below (Below.refl _ _) hg' (Nat.le_refl _) hbase)
  · rw [if_pos hw]
    obtain ⟨i0, hi, hz0, hz1, hz2⟩ := info_parts infoByte
    have hb := hrow.bys
    have hbx := hr.bys
    obtain ⟨ao, cap, rfl, h1, h2, h3, h4, h5⟩ := hrow
    cases ao with
    | none => have := h3 rfl; omega
    | some ad =>
      obtain ⟨ao2, cap2, hv2, k1, k2, k3, k4, k5⟩ := hr
      simp at hv2
      obtain ⟨rfl, rfl⟩ := hv2
      obtain ⟨v', w', hrun, r1, r2⟩ := run_append_arg_grows (P := Try.prog) (w := w) 43 o.type 5 i0 (.int .u8 0) 1 1 Try.underlying43 hi hz0 hz1 hz2 rfl (by decide) ⟨g, 0, none⟩ xs.length xs.length (bv xs) (by rw [bv_length, Nat.mul_one]) (k4 _ rfl) ad ys.length cap (bv ys) (by rw [bv_length, Nat.mul_one]) (h4 ad rfl) (by omega) (by unfold maxLen; omega) (by omega)
      unfold Oper.wp
      simp [execOp, ho, resolve, invoke, builtin, hs, hx, hrun, Result.andThen]
      refine hK v' w' (Own.row (base := w.heap.size) ⟨by rw [List.length_append, bv_append]; exact r1, hbx.app hb⟩) ?_
      exact (grown_below r2).mono hbase

/-- Bytes, and then the filling. -/
def fitF (b : List Int) (f : Int) (j : Nat) : Int := if j < b.length then b.getD j 0 else f
def fillX (b : List Int) (f : Int) (T k : Nat) : List Int := (List.range k).map (fitF b f) ++ List.replicate (T - k) 0
theorem fillX_length {b : List Int} {f : Int} {T k : Nat} (h : k ≤ T) : (fillX b f T k).length = T := by simp [fillX]; omega
theorem fillX_set {b : List Int} {f : Int} {T k : Nat} (h : k < T) : (fillX b f T k).set k (fitF b f k) = fillX b f T (k + 1) := by
  unfold fillX
  rw [List.set_append_right _ _ (by simp), List.length_map, List.length_range, Nat.sub_self, show T - k = (T - (k + 1)) + 1 by omega, List.replicate_succ, List.range_succ]
  simp
theorem fillX_set2 {b : List Int} {f : Int} {T k : Nat} (y : Int) (h : k < T) : ((fillX b f T k).set k y).set k (fitF b f k) = fillX b f T (k + 1) := by
  rw [List.set_set, fillX_set h]
theorem fillX_bys {b : List Int} {f : Int} (hb : Bys b) (hf : 0 ≤ f ∧ f < 256) (T k : Nat) : Bys (fillX b f T k) := by
  unfold fillX
  refine Bys.app (fun x hx => ?_) (fun x hx => by simp at hx; omega)
  simp at hx
  obtain ⟨j, _, rfl⟩ := hx
  unfold fitF
  split
  · exact hb.at j
  · exact hf
theorem Blk.bytesRow {w : World} {g : Nat} {xs : List Int} {n : Nat} (h : Blk w g (bv xs).toArray 5) (hn : xs.length = n) (hm : n ≤ 1000000) (hb : Bys xs) : Row w (.slice (some ⟨g, 0, none⟩) n n) xs := by
  subst hn
  refine Row.mk (off := 0) (Nat.le_refl _) (by unfold maxLen; omega) (fun i hi => ?_) hb
  rw [Nat.zero_add, h.cell i, List.getElem?_toArray, bv_at hi]
theorem Blk.setB5 {w : World} {b : Nat} {xs : List Int} (h : Blk w b (bv xs).toArray 5) (j : Nat) (y : Int) : Blk (w.setCell ⟨b, j, none⟩ (.int .u8 y)) b (bv (xs.set j y)).toArray 5 := by
  have := h.set j (.int .u8 y)
  rw [show bv (xs.set j y) = (bv xs).set j (.int .u8 y) from by simp [bv, List.map_set]]
  simpa using this

set_option maxHeartbeats 1000000 in
theorem Load5_short (base : Nat) (w : World) (L : DLay) (N : DSt) (m n : Nat) (h : NChip base w L N m) (ok : N.Ok n) (v : Value) (X : List Int) (hr : Row w v X) (hX : X.length ≠ N.C * N.D * (N.E + 16)) :
    Calls Try.prog 35 #[.pointer (some ⟨L.c, 0, none⟩), v] w fun e w' => e = .returned (.int .i64 1) ∧ Below w.heap.size w w' := by
  have hlen := hr.lenRun
  have hC := ok.C1
  have hD := ok.D1
  have hE := ok.E1
  have hbig := ok.big
  have c0 := (h.blk.cell 0).trans (show _ = some (Value.int .i64 N.A) from rfl)
  have c1 := (h.blk.cell 1).trans (show _ = some (Value.int .i64 N.B) from rfl)
  have c2 := (h.blk.cell 2).trans (show _ = some (Value.int .i64 N.C) from rfl)
  have c3 := (h.blk.cell 3).trans (show _ = some (Value.int .i64 N.D) from rfl)
  have c4 := (h.blk.cell 4).trans (show _ = some (Value.int .i64 N.E) from rfl)
  have hm1 : ((N.C : Int) * (N.D : Int)) = ((N.C * N.D : Nat) : Int) := by simp
  have hm2 : ((N.C * N.D : Nat) : Int) * ((N.E : Int) + 16) = ((N.C * N.D * (N.E + 16) : Nat) : Int) := by simp
  have hcd : N.C * N.D ≤ 2048 := Nat.mul_le_mul hC hD
  have hlm := hr.len
  unfold maxLen at hlm
  generalize N.C * N.D * (N.E + 16) = T at *
  generalize N.C * N.D = Q at *
  generalize X.length = n1 at *
  have hne : ((n1 : Int) != (T : Int)) = true := by simp; omega
  clear h hr hX
  go_enter Try.func35, Try.ntmps35
  go_wp2
  go_ret
  exact ⟨rfl, (Below.refl _ _).alloc (Nat.le_refl _) _⟩
end Go.Proofs.Ythlkilgfphbfcaa
