/-
  The document's placesOf, PagesOf.
-/
import Derived.Test.YtlfodhffecadoaaInoH
import Derived.Test.YtlfodhffecadoaaInoI
import Derived.Test.YtlfodhffecadoaaRunsT
import Derived.Test.YtlfodhffecadoaaRowI
namespace Go.Proofs.Ytlfodhffecadoaa
open Go.RowKit
set_option linter.unusedVariables false
set_option maxRecDepth 100000

theorem irow_one (w : World) (x : Int) (hx : (Lit.int .i64 x).wf = true) (t : TypeId) : IRow .i64 (w.alloc (.cells #[.int .i64 x] t)) (.slice (some ⟨w.heap.size, 0, none⟩) 1 1) [x] := by
  refine IRow.mk (xs := [x]) (off := 0) (by simp) (by unfold maxLen; simp) ?_ ?_
  · intro i hi
    match i, hi with
    | 0, _ => exact (Blk.new w #[.int .i64 x] t).cell 0
  · intro z hz
    simp at hz
    subst hz
    exact hx
theorem IOwn.grown_bel {k : IntKind} {e : TypeId} {base B : Nat} {w0 w w' : World} {v : Value} {xs : List Int} (h : IOwn k e base w v xs) (hb : Below B w0 w) (hg : w.grownBy w' v.ownBlock) (hB : B ≤ base) (hs : B ≤ w.heap.size) : Below B w0 w' :=
  hb.grown hg hs (fun k e => Nat.le_trans hB (h.block k e).1)
theorem tab_wf {l : List Rn} (h : rightS l = true) (k : Nat) : (Lit.int .i64 ((tabS l k).getD 0)).wf = true := by
  cases ho : tabS l k with
  | none => decide
  | some a =>
    have := get_range h ho
    exact wf_i64 (by simp; omega) (by simp; omega)
/-- The first k of them are the table's. -/
def FillP (l : List Rn) (xs : List Int) (k : Nat) : Prop := xs.length = 64 ∧ ∀ j, j < k → xs.getD j 0 = plOf (tabS l j)
theorem FillP.some {l : List Rn} {xs : List Int} {k : Nat} (h : FillP l xs k) (hk : k < 64) {a : Int} (ha : tabS l k = some a) : FillP l (xs.set k a) (k + 1) := by
  refine ⟨by rw [List.length_set]; exact h.1, fun j hj => ?_⟩
  rw [getD_set (by rw [h.1]; omega)]
  by_cases e : k = j
  · subst e; rw [if_pos rfl, ha]; rfl
  · rw [if_neg e, h.2 j (by omega)]
theorem FillP.none {l : List Rn} {xs : List Int} {k : Nat} (h : FillP l xs k) (hk : k < 64) (z : Int) (ha : tabS l k = none) : FillP l ((xs.set k z).set k (-1)) (k + 1) := by
  refine ⟨by rw [List.length_set, List.length_set]; exact h.1, fun j hj => ?_⟩
  rw [getD_set (by rw [List.length_set, h.1]; omega), getD_set (by rw [h.1]; omega)]
  by_cases e : k = j
  · subst e; rw [if_pos rfl, ha]; rfl
  · rw [if_neg e, if_neg e, h.2 j (by omega)]

set_option maxHeartbeats 4000000 in
theorem RPlaces_any (w : World) (v : Value) (l : List Rn) (h : RRow w v l) (hr : rightS l = true) :
    Calls Try.prog 27 #[v] w fun e w' => ∃ g xs, e = .returned (.slice (some ⟨g, 0, none⟩) 64 64) ∧ w.heap.size ≤ g ∧ IOwn .i64 3 w.heap.size w' (.slice (some ⟨g, 0, none⟩) 64 64) xs ∧ FillP l xs 64 ∧ Below w.heap.size w w' := by
  have HRW := hide h
  have HRT := hide hr
  clear h hr
  have hmk := run_make_ints w 64 (by omega)
  have ho := own_ints w 64 (by omega)
  have hb0 : Below w.heap.size w (w.alloc (.cells (iv .i64 (List.replicate 64 0)).toArray 3)) := kl_alloc w _
  rw [show ((64 : Nat) : Int) = 64 from rfl] at hmk
  generalize w.alloc (.cells (iv .i64 (List.replicate 64 0)).toArray 3) = w0 at *
  have HF0 := hide (show FillP l (List.replicate 64 0) 0 from ⟨by simp, fun j hj => absurd hj (Nat.not_lt_zero _)⟩)
  generalize List.replicate 64 (0 : Int) = x0 at *
  have HO := hide ho
  have HB := hide hb0
  clear ho hb0
  go_enter Try.func27, Try.ntmps27
  go_wp2_with fail
  generalize hg : w.heap.size = g at *
  have HG := hide hg
  clear hg
  go_loopw [4] (fun i wr => ∃ (k : Nat) (xs : List Int), k ≤ 64 ∧ i = .int .i64 k ∧ Hid (FillP l xs k) ∧ Hid (IOwn .i64 3 g wr (.slice (some ⟨g, 0, none⟩) 64 64) xs) ∧ Hid (Below g w wr)) (fun i _ => 64 - (intOf i).toNat)
  case atStart => exact ⟨0, x0, Nat.zero_le _, rfl, HF0, HO, HB⟩
  case round =>
    obtain ⟨k, xs, hk, rfl, HF, HOX, HBX⟩ := hrel
    by_cases hlt : k < 64
    · have hlt' : (k : Int) < 64 := by omega
      go_wp2_with fail
      refine (RGet_any wr v l (k : Int) (HRW.out.below (by rw [HG.out]; exact HBX.out)) HRT.out ⟨by omega, by omega⟩).mono ?_
      rintro e w5 ⟨rfl, hb5⟩
      have hown := HOX.out.kept hb5
      have hgl := hown.lt.2
      have hck := hown.cellAt HF.out.1 k hlt
      have hfk := hown.frozenAt HF.out.1 k
      have hwf := tab_wf HRT.out k
      have hst := hown.stored HF.out.1 k _ hwf
      have HB5 := hide (HBX.out.trans (hb5.mono (Nat.le_of_lt HOX.out.lt.2)))
      cases ho : tabS l k with
      | some a =>
        rw [ho] at hst
        have ho' : getS l (k : Int) = some a := ho
        rw [ho']
        simp only [Option.getD_some, Option.isSome_some] at hst ⊢
        have HF1 := hide (HF.out.some hlt ho)
        have HST := hide hst
        have HB6 := hide (HB5.out.setCell (p := ⟨g, k, none⟩) (Nat.le_refl _) (.int .i64 a))
        clear hst hown hwf hb5 ho ho' HO HB HF0 HBX HOX HF
        go_wp2
        exact ⟨⟨k + 1, _, by omega, by go_num, HF1, HST, HB6⟩, by simp [intOf]; omega⟩
      | none =>
        rw [ho] at hst
        have ho' : getS l (k : Int) = none := ho
        rw [ho']
        simp only [Option.getD_none, Option.isSome_none] at hst ⊢
        have HF1 := hide (HF.out.none hlt 0 ho)
        have HST := hide (hst.stored (by rw [List.length_set]; exact HF.out.1) k (-1) (by decide))
        have HB6 := hide ((HB5.out.setCell (p := ⟨g, k, none⟩) (Nat.le_refl _) (.int .i64 0)).setCell (p := ⟨g, k, none⟩) (Nat.le_refl _) (.int .i64 (-1)))
        clear hst hown hwf hb5 ho ho' HO HB HF0 HBX HOX HF
        go_wp2
        exact ⟨⟨k + 1, _, by omega, by go_num, HF1, HST, HB6⟩, by simp [intOf]; omega⟩
    · obtain rfl : k = 64 := by omega
      go_wp2
      go_ret
      exact ⟨g, xs, rfl, by rw [HG.out]; exact Nat.le_refl _, by rw [HG.out]; exact HOX.out, HF.out, by rw [HG.out]; exact HBX.out⟩
end Go.Proofs.Ytlfodhffecadoaa
