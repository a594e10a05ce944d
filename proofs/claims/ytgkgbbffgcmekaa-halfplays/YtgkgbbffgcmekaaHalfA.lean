/-
  The contracts of package half.
-/
import Derived.Test.YtgkgbbffgcmekaaHalfP
namespace Go.Proofs.Ytgkgbbffgcmekaa
open Go.RowKit
set_option linter.unusedVariables false
set_option maxRecDepth 100000

theorem refusal_any (w : World) (po : Option Addr) (h : Int) : Calls Try.prog 36 #[.pointer po, .int .i64 h] w fun e w' => e = .returned (.int .i64 (if po = none then 2 else if isHalf h then 0 else 1)) ∧ w' = w := by
  cases po with
  | none =>
    go_enter Try.func36, Try.ntmps36
    go_wp2
    go_ret
    exact ⟨rfl, rfl⟩
  | some a =>
    by_cases h0 : h = 0
    · subst h0
      go_enter Try.func36, Try.ntmps36
      go_wp2
      go_ret
      exact ⟨rfl, rfl⟩
    · have h0' : (h != 0) = true := by simpa using h0
      by_cases h1 : h = 1
      · subst h1
        go_enter Try.func36, Try.ntmps36
        go_wp2
        go_ret
        exact ⟨rfl, rfl⟩
      · have h1' : (h != 1) = true := by simpa using h1
        have hh : isHalf h = false := by simp [isHalf, h0, h1]
        rw [hh]
        go_enter Try.func36, Try.ntmps36
        go_wp2
        go_ret
        exact ⟨rfl, rfl⟩

theorem sectors_any (w : World) (A : Nat) (b c d e : Int) (hA : A ≤ 16) :
    Calls Try.prog 37 #[.agg (gcells A b c d e)] w fun x w' => x = .returned (.int .i64 ((A / 2 : Nat) : Int)) ∧ Below w.heap.size w w' := by
  unfold gcells
  go_enter Try.func37, Try.ntmps37
  go_wp2
  go_ret
  refine ⟨ret_one (congrArg (Value.int .i64) ?_), (Below.refl _ _).alloc (Nat.le_refl _) _⟩
  omega

end Go.Proofs.Ytgkgbbffgcmekaa
