/-
  What a program that does nothing does not answer: garretlaw03.awake.
-/
import Derived.Test.YthocjbcjmcoioaaPowA
namespace Go.Proofs.Ythocjbcjmcoioaa
open Go.RowKit
set_option linter.unusedVariables false

/-- A new power, behind New. -/
theorem Pow.new (w : World) (base : Nat) (hb : w.heap.size < base) : Pow base (w.alloc (.cells (pcells PSt.zero none) 45)) w.heap.size PSt.zero :=
  ⟨none, Blk.new _ _ _, .inl ⟨rfl, rfl⟩, hb⟩
theorem PSt.zero_ok (n : Nat) : PSt.zero.Ok n := ⟨by decide, by simp [PSt.zero]; try omega, by decide, by decide, by decide⟩

set_option maxHeartbeats 1000000 in
theorem awake_any (w : World) : Calls Try.prog 8 #[] w fun e w' => e = .returned (.bool true) ∧ Below w.heap.size w w' := by
  go_enter Try.func8, Try.ntmps8
  go_wp2_with fail
  refine (New_any _).mono ?_
  rintro e w1 ⟨rfl, hw1⟩
  have hP := Pow.new w (w.heap.size + 1) (by omega)
  rw [← hw1] at hP
  have hb1 : Below w.heap.size w w1 := hw1 ▸ (Below.refl _ _).alloc (Nat.le_refl _) _
  clear hw1
  generalize hbn : w.heap.size = b at *
  go_wp2_with fail
  refine (Step_any _ _ _ _ 0 hP (PSt.zero_ok 0) (by omega)).mono ?_
  rintro e w2 ⟨rfl, hP2, hg2⟩
  rw [show PSt.zero.step = (true, false, ⟨false, false, 0, 0, 1, []⟩) from rfl] at *
  go_wp2_with fail
  refine (Cut_any _ _ _ _ 0 7 hP2).mono ?_
  rintro e w3 ⟨rfl, hP3, hg3⟩
  rw [show PSt.cut ⟨false, false, 0, 0, 1, []⟩ 0 7 = ⟨false, true, 0, 7, 1, []⟩ from rfl] at *
  go_wp2_with fail
  refine (Step_any _ _ _ _ 1 hP3 ⟨by decide, by decide, by decide, by decide, by decide⟩ (by omega)).mono ?_
  rintro e w4 ⟨rfl, hP4, hg4⟩
  rw [show PSt.step ⟨false, true, 0, 7, 1, []⟩ = (false, true, ⟨true, true, 0, 7, 1, []⟩) from rfl] at *
  go_wp2_with fail
  refine (Off_any _ _ _ _ hP4).mono ?_
  rintro e w5 ⟨rfl, rfl⟩
  go_wp2_with fail
  refine (Mask_any _ _ _ _ hP4).mono ?_
  rintro e w6 ⟨rfl, rfl⟩
  go_wp2_with fail
  refine (Steps_any _ _ _ _ hP4).mono ?_
  rintro e w7 ⟨rfl, rfl⟩
  go_wp2
  go_ret
  exact ⟨rfl, by
    have s1 := hb1.size
    have h2 := hb1.grown hg2 (by omega) (by simp)
    have s2 := h2.size
    have h3 := h2.grown hg3 (by omega) (by simp)
    have s3 := h3.size
    rw [hbn]
    exact h3.grown hg4 (by omega) (by simp)⟩
end Go.Proofs.Ythocjbcjmcoioaa
