/-
  The contracts of package half: Size of what may not be.
-/
import Derived.Test.YtgkgbbffgcmekaaHalfB
namespace Go.Proofs.Ytgkgbbffgcmekaa
open Go.RowKit
set_option linter.unusedVariables false
set_option maxRecDepth 100000

theorem HSize_wrong (w : World) (a b c d e : Int) (ha : (Lit.int .i64 a).wf = true) (hr : rightS a b c d e = false) :
    Calls Try.prog 28 #[.agg (gcells a b c d e)] w fun x w' => x = .returned (.int .i64 0) ∧ Below w.heap.size w w' := by
  have hri := fun w => Right_any w a b c d e ha
  rw [hr] at hri
  unfold gcells at *
  go_enter Try.func28, Try.ntmps28
  go_wp2_with fail
  refine (hri _).mono ?_
  rintro x w1 ⟨rfl, rfl⟩
  go_wp2
  go_ret
  exact ⟨rfl, ((Below.refl _ _).alloc (Nat.le_refl _) _).alloc (by simp) _⟩
end Go.Proofs.Ytgkgbbffgcmekaa
