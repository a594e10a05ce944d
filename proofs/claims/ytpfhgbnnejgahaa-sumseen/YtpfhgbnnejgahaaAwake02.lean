/-
  What a program that does nothing does not answer: garretlaw02.awake.
-/
import Derived.Test.YtpfhgbnnejgahaaSumA
namespace Go.Proofs.Ytpfhgbnnejgahaa
open Go.RowKit
set_option linter.unusedVariables false

set_option maxHeartbeats 1000000 in
theorem awake_any (w : World) : Calls Try.prog 7 #[] w fun e w' => e = .returned (.bool true) ∧ Below w.heap.size w w' := by
  go_enter Try.func7, Try.ntmps7
  go_wp2_with fail
  refine (Of_any _ _ [] (Row.nil _)).mono ?_
  rintro e w1 ⟨rfl, rfl⟩
  rw [show sumS [] = 1 from by decide]
  go_wp2_with fail
  refine (Ok_any _ _ [1] 131074 (row_new1 _ 1 (by omega))).mono ?_
  rintro e w2 ⟨rfl, rfl⟩
  rw [show (sumS [1] == 131074) = true from by decide]
  go_wp2
  go_ret
  exact ⟨rfl, (Below.refl _ _).alloc (Nat.le_refl _) _⟩
end Go.Proofs.Ytpfhgbnnejgahaa
