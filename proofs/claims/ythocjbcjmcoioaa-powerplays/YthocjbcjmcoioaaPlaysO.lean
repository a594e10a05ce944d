/-
  The argument of garretlaw03.PowerPlays, opened.
-/
import Derived.Test.YthocjbcjmcoioaaPlaysW
namespace Go.Proofs.Ythocjbcjmcoioaa
open Go.RowKit
theorem PowerPlays_open0 (w : World) : Opens Try.prog w 22 (fun cs => ∃ v xs, cs = [v] ∧ Seq w 4 OpD.cells v xs ∧ ∀ o ∈ xs, o.Ok w) := by
  have h := opens_slice Try.underlying22 OpD.cells (OpD.Ok w) (opens_op w)
  rwa [show Try.prog.cellsOf 30 = 4 from by kernel_rfl] at h
end Go.Proofs.Ythocjbcjmcoioaa
