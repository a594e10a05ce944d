/-
  garretlaw11's own 'awake'.
-/
import Derived.Test.YtjmdinfdnjbcoaaEntS
import Derived.Test.YtjmdinfdnjbcoaaEntT
namespace Go.Proofs.Ytjmdinfdnjbcoaa
open Go.RowKit
set_option linter.unusedVariables false
set_option maxRecDepth 100000

def txA : ByteArray := ⟨#[97]⟩
theorem add_one : addS [] ⟨⟨#[97]⟩, 5⟩ = ([⟨⟨#[97]⟩, 5⟩], 0) := by
  have h1 : rightN (bl ⟨#[97]⟩) = true := by decide
  unfold addS
  rw [h1]
  rfl
theorem find_one : findS [⟨⟨#[97]⟩, 5⟩] (bl ⟨#[97]⟩) = (5, true) := by
  have : atS [⟨⟨#[97]⟩, 5⟩] (bl ⟨#[97]⟩) = some 0 := by rw [atS_cons, if_pos rfl]
  rw [findS_some this]; rfl
theorem right_one : rightE [⟨⟨#[97]⟩, 5⟩] = true := by
  refine rightE_iff.2 ⟨by simp, fun i hi => ?_⟩
  have : i = 0 := by simp at hi; omega
  subst this
  exact stepE_zero (by decide) (by decide)
theorem wf_one : (⟨⟨#[97]⟩, 5⟩ : En).Wf := ⟨by unfold maxLen; decide, by decide⟩

set_option maxHeartbeats 2000000 in
theorem awake_any (w : World) : Calls Try.prog 7 #[] w fun e w' => e = .returned (.bool true) ∧ Below w.heap.size w w' := by
  have had := Add_any w (.slice none 0 0) [] ⟨#[97]⟩ 5 (ERow.nil w) (by simp) wf_one
  rw [add_one] at had
  have HFI := fun W v h => Find_any W v [⟨⟨#[97]⟩, 5⟩] h (by simp) ⟨#[97]⟩ (by unfold maxLen; decide)
  have HRI := fun W v h => RightE_any W v [⟨⟨#[97]⟩, 5⟩] h
  simp only [find_one] at HFI
  simp only [right_one] at HRI
  go_enter Try.func7, Try.ntmps7
  go_wp2_with fail
  refine had.mono ?_
  rintro e w1 ⟨u, rfl, ho, hb1⟩
  have hr1 := hide ho.row
  clear ho had
  go_wp2_with fail
  refine (HFI w1 u hr1.out).mono ?_
  rintro e w2 ⟨rfl, hb2⟩
  have hr2 := hide (hr1.out.below hb2)
  have hB2 := kl_step hb2 hb1
  clear hb1 hb2 hr1
  go_wp2_with fail
  refine (HRI w2 u hr2.out).mono ?_
  rintro e w3 ⟨rfl, hb3⟩
  have hB3 := kl_step hb3 hB2
  clear hb3 hB2 hr2
  go_wp2
  go_ret
  exact ⟨rfl, hB3⟩
end Go.Proofs.Ytjmdinfdnjbcoaa
