/-
  Few deeds are few bytes.
-/
import Derived.Test.YtgkmgpjhpplkiaaPackD
import Derived.Test.YtgkmgpjhpplkiaaPackZ
namespace Go.Proofs.Ytgkmgpjhpplkiaa
open Go.RowKit
set_option linter.unusedVariables false
set_option maxRecDepth 100000

theorem flat_le {α : Type} (f : α → List Int) (g : α → Nat) (l : List α) (h : ∀ x, (f x).length ≤ 24 * g x) : (l.flatMap f).length ≤ 24 * (l.map g).sum := by
  induction l with
  | nil => simp
  | cons a t ih =>
    have h1 := h a
    rw [List.flatMap_cons, List.length_append, List.map_cons, List.sum_cons]
    omega
theorem packRs_length (l : List Rn) : (l.flatMap packR).length = 24 * l.length := by
  induction l with
  | nil => rfl
  | cons a t ih => rw [List.flatMap_cons, List.length_append, packR_length, ih, List.length_cons]; omega
theorem packD_le (d : Dd) : (packD d).length ≤ 24 * sizD d := by
  have h1 := flat_le packE sizE d.x.es fun e => by rw [packE_length]; unfold sizE; omega
  have h2 := packRs_length d.x.rs
  have h3 := packI_length d.x
  unfold sizD packD
  rw [List.length_cons]
  split
  · rw [n8_length]; omega
  · split
    · omega
    · simp only [List.length_nil]; omega
theorem packL_le (l : List Dd) : (packL l).length ≤ 24 * sizL l := flat_le packD sizD l packD_le
/-- Few deeds are packed in less than a hundred thousand bytes. -/
theorem packL_few {l : List Dd} (h : sizL l ≤ 4000) : (packL l).length ≤ 96000 := by have := packL_le l; omega
theorem length_few {l : List Dd} (h : sizL l ≤ 4000) : l.length ≤ 400 := by
  have : 10 * l.length ≤ sizL l := by
    unfold sizL
    clear h
    induction l with
    | nil => simp
    | cons a t ih => rw [List.map_cons, List.sum_cons, List.length_cons]; unfold sizD at *; omega
  omega
/-- What 'clean' makes of few deeds is few. -/
theorem sizD_drop (d : Dd) (x : Ino) (h : x = d.x ∨ x = noI) (k n : Int) : sizD ⟨k, n, x⟩ ≤ sizD d := by
  rcases h with rfl | rfl
  · exact Nat.le_refl _
  · unfold sizD noI
    simp
    omega
end Go.Proofs.Ytgkmgpjhpplkiaa
