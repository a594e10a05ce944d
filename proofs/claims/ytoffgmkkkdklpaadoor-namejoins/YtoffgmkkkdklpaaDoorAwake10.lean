/-
  garretlaw10's awake: true.
-/
import Derived.Test.YtoffgmkkkdklpaaDoorNameE
namespace Go.Proofs.YtoffgmkkkdklpaaDoor
open Go.RowKit
set_option linter.unusedVariables false
set_option maxRecDepth 100000

theorem awk1 : splitS [47, 97, 47, 47, 98] = ([[97], [98]], 0) := by kernel_rfl
theorem awk2 : rightN [97] = true := by kernel_rfl
theorem awk3 : rightN [46, 46] = false := by kernel_rfl

set_option maxHeartbeats 2000000 in
theorem awake10_any (w : World) : Calls Tryd.prog 8 #[] w (SaysB true w) := by
  have h1 := fun w => Split_any w ⟨#[47, 97, 47, 47, 98]⟩ (by decide)
  rw [show bl ⟨#[47, 97, 47, 47, 98]⟩ = [47, 97, 47, 47, 98] from rfl, awk1] at h1
  have h2 := fun w => Right_any w ⟨#[97]⟩ (by decide)
  rw [show bl ⟨#[97]⟩ = [97] from rfl, awk2] at h2
  have h3 := fun w => Right_any w ⟨#[46, 46]⟩ (by decide)
  rw [show bl ⟨#[46, 46]⟩ = [46, 46] from rfl, awk3] at h3
  go_enter Tryd.func8, Tryd.ntmps8
  go_wp2_with fail
  refine (h1 _).mono ?_
  rintro e w1 ⟨v, rfl, hv, hb1⟩
  have HV := hide (hv.below (kl_alloc w1 (.cells #[.string ⟨#[97]⟩, .string ⟨#[98]⟩] 9)))
  have HN := hide (strs_new w1 [⟨#[97]⟩, ⟨#[98]⟩] #[.string ⟨#[97]⟩, .string ⟨#[98]⟩] 2 rfl rfl (by decide) (fun x hx => by
    simp at hx
    rcases hx with rfl | rfl <;> decide))
  have hb2 := kl_step (kl_alloc w1 (.cells #[.string ⟨#[97]⟩, .string ⟨#[98]⟩] 9)) hb1
  clear hv hb1
  go_wp2_with fail
  refine (PlainS_any _ v _ [⟨#[97]⟩, ⟨#[98]⟩] [⟨#[97]⟩, ⟨#[98]⟩] HV.out HN.out).mono ?_
  rintro e w3 ⟨rfl, hb3⟩
  rw [decide_eq_true rfl]
  have hB3 := kl_step hb3 hb2
  clear hb3 hb2
  go_wp2_with fail
  refine (h2 _).mono ?_
  rintro e w4 ⟨rfl, hb4⟩
  have hB4 := kl_step hb4 hB3
  clear hb4 hB3
  go_wp2_with fail
  refine (h3 _).mono ?_
  rintro e w5 ⟨rfl, hb5⟩
  have hB5 := kl_step hb5 hB4
  go_wp2
  go_ret
  exact ⟨rfl, hB5⟩
end Go.Proofs.YtoffgmkkkdklpaaDoor
