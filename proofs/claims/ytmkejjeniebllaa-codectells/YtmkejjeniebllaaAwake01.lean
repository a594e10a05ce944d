/-
  What a program that does nothing does not answer: garretlaw01.awake.
-/
import Derived.Test.YtmkejjeniebllaaHelp
namespace Go.Proofs.Ytmkejjeniebllaa
open Go.RowKit
set_option linter.unusedVariables false

/-- A row written out in a new block. -/
theorem row_new2 (w : World) (x y : Int) (hx : 0 ≤ x ∧ x < 256) (hy : 0 ≤ y ∧ y < 256) : Row (w.alloc (.cells #[.int .u8 x, .int .u8 y] 5)) (.slice (some ⟨w.heap.size, 0, none⟩) 2 2) [x, y] := by
  refine Row.mk (xs := [x, y]) (off := 0) (by simp) (by unfold maxLen; simp) ?_ ?_
  · intro i hi
    match i, hi with
    | 0, _ => simp
    | 1, _ => simp
  · intro z hz
    simp at hz
    rcases hz with rfl | rfl <;> assumption

set_option maxHeartbeats 1000000 in
theorem awake_any (w : World) : Calls Try.prog 7 #[] w fun e w' => e = .returned (.bool true) ∧ Below w.heap.size w w' := by
  go_enter Try.func7, Try.ntmps7
  go_wp2_with fail
  refine (Get_any _ _ [2, 1] 0 2 (row_new2 w 2 1 (by omega) (by omega)) (by decide) (by decide)).mono ?_
  rintro e w1 ⟨rfl, rfl⟩
  rw [show getS [2, 1] 0 2 = (258, 0) from by decide]
  go_wp2_with fail
  refine (Put_any _ _ [] 258 2 (Row.nil _) (by simp) (by omega) (by omega)).mono ?_
  rintro e w2 ⟨u, rfl, ho, hb⟩
  rw [show [] ++ low 258 (held 2) = [2, 1] from by decide] at ho
  go_wp2_with fail
  have hr := (ho.kept ((Below.refl _ _).alloc (Nat.le_refl _) (.cells #[.int .u8 2, .int .u8 1] 5))).row
  refine (Bytes_any _ _ _ [2, 1] [2, 1] hr (row_new2 w2 2 1 (by omega) (by omega))).mono ?_
  rintro e w3 ⟨rfl, rfl⟩
  go_wp2
  go_ret
  have hb' : Below w.heap.size w w2 := ((Below.refl _ _).alloc (Nat.le_refl _) _).trans (hb.mono (by simp))
  exact ⟨rfl, hb'.alloc hb'.size _⟩
end Go.Proofs.Ytmkejjeniebllaa
