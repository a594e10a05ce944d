/-
  The small geometry of garretlaw05.
-/
import Derived.Test.YthiehpofmlbehaaGeo
namespace Go.Proofs.Ythiehpofmlbehaa
open Go.RowKit
set_option linter.unusedVariables false

set_option maxRecDepth 100000 in
set_option maxHeartbeats 2000000 in
theorem small5_any (w : World) : Calls Try.prog 33 #[] w fun x w' => ∃ (A B C D E : Nat), x = .returned (.agg (gcells A B C D E)) ∧ rightS A B C D E = true ∧ (C ≤ 8 ∧ D ≤ 6 ∧ E = 16) ∧ Below w.heap.size w w' := by
  have hp : ∀ w, Calls Try.prog 4 #[.agg #[.int .i64 0, .int .i64 0, .int .i64 0, .int .i64 0, .int .i64 0]] w fun x w' => ∃ (A B C D E : Nat), x = .returned (.agg #[.int .i64 A, .int .i64 B, .int .i64 C, .int .i64 D, .int .i64 E]) ∧ Hid (rightS A B C D E = true) ∧ Hid (C ≤ 8 ∧ D ≤ 6 ∧ E = 16) ∧ Below w.heap.size w w' := fun w => (playN_any w 0 0 0 0 0).mono (by
    rintro e w1 ⟨A, B, C, D, E, rfl, hr, hq, hB⟩
    exact ⟨A, B, C, D, E, rfl, hide hr, hide ⟨hq.1, hq.2.1, hq.2.2.2 rfl⟩, hB⟩)
  go_enter Try.func33, Try.ntmps33
  go_wp2_with fail
  refine (hp _).mono ?_
  rintro e w1 ⟨A, B, C, D, E, rfl, hr, hq, hB⟩
  have hb := (Blk.new w #[.int .i64 0, .int .i64 0, .int .i64 0, .int .i64 0, .int .i64 0] 23).below hB (by simp)
  have c0 := hb.cell 0
  have c1 := hb.cell 1
  have c2 := hb.cell 2
  have c3 := hb.cell 3
  have c4 := hb.cell 4
  have f0 := hb.frozen 0
  have f1 := hb.frozen 1
  have f2 := hb.frozen 2
  have f3 := hb.frozen 3
  have f4 := hb.frozen 4
  simp at c0 c1 c2 c3 c4
  go_wp2
  have hfin := ((((hb.set 0 (.int .i64 (A : Int))).set 1 (.int .i64 (B : Int))).set 2 (.int .i64 (C : Int))).set 3 (.int .i64 (D : Int))).set 4 (.int .i64 (E : Int))
  have hB0 : Below w.heap.size w w1 := ((Below.refl _ _).alloc (Nat.le_refl _) _).trans (hB.mono (by simp))
  refine bodyPost_ret (results_cell_row rfl _ _ w.heap.size 23 _ (0, 0) _ rfl hfin Try.underlying23 rfl (by kernel_rfl)) rfl ⟨A, B, C, D, E, rfl, hr.out, hq.out, ?_⟩
  exact ((((hB0.setCell (Nat.le_refl _) _).setCell (Nat.le_refl _) _).setCell (Nat.le_refl _) _).setCell (Nat.le_refl _) _).setCell (Nat.le_refl _) _

end Go.Proofs.Ythiehpofmlbehaa
