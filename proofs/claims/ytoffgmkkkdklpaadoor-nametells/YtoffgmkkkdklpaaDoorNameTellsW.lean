/-
  The walk of garretlaw10.NameTells.
-/
import Derived.Test.YtoffgmkkkdklpaaDoorAwake10
namespace Go.Proofs.YtoffgmkkkdklpaaDoor
open Go.RowKit
set_option linter.unusedVariables false
set_option maxRecDepth 100000

set_option maxHeartbeats 4000000 in
theorem NameTells_walk (s : ByteArray) (w : World) (hs : s.size ≤ maxLen) : Calls Tryd.prog 3 #[.string s] w fun e w' => e = .returned (.bool true) ∧ Below w.heap.size w w' := by
  have hm := hs
  unfold maxLen at hm
  by_cases hbig : (1000 : Int) < s.size
  · clear hs
    go_enter Tryd.func3, Tryd.ntmps3
    go_wp2_with fail
    refine (awake10_any _).mono ?_
    rintro e w5 ⟨rfl, hb5⟩
    go_wp2
    go_ret
    exact ⟨rfl, hb5⟩
  · have h1 := fun w => Split_any w s hs
    have h2 := fun w => RSplit_any w s hs
    have h3 := fun w => Parts_any w s hs
    have h4 := fun w => RParts_any w s hs
    have h5 := fun w => Right_any w s hs
    have h6 := fun w => RRight_any w s hs
    generalize splitS (bl s) = r at *
    generalize partsS (bl s) = q at *
    generalize rightN (bl s) = b at *
    obtain ⟨ns, er⟩ := r
    obtain ⟨ms, top, er2⟩ := q
    clear hs
    go_enter Tryd.func3, Tryd.ntmps3
    go_wp2_with fail
    refine (h1 _).mono ?_
    rintro e w1 ⟨v1, rfl, hv1, hb1⟩
    have HV1 := hide hv1
    have HB1 := hide hb1
    clear hv1 hb1 h1
    go_wp2_with fail
    refine (h2 _).mono ?_
    rintro e w2 ⟨v2, rfl, hv2, hb2⟩
    have HV1' := hide (HV1.out.below hb2)
    have HV2 := hide hv2
    have HB2 := hide (kl_step hb2 HB1.out)
    clear hv2 hb2 h2 HV1 HB1
    go_wp2_with fail
    refine (h3 _).mono ?_
    rintro e w3 ⟨v3, rfl, hv3, hb3⟩
    have HV1 := hide (HV1'.out.below hb3)
    have HV2' := hide (HV2.out.below hb3)
    have HV3 := hide hv3
    have HB3 := hide (kl_step hb3 HB2.out)
    clear hv3 hb3 h3 HV1' HV2 HB2
    go_wp2_with fail
    refine (h4 _).mono ?_
    rintro e w4 ⟨v4, rfl, hv4, hb4⟩
    have HV1' := hide (HV1.out.below hb4)
    have HV2 := hide (HV2'.out.below hb4)
    have HV3' := hide (HV3.out.below hb4)
    have HV4 := hide hv4
    have HB4 := hide (kl_step hb4 HB3.out)
    clear hv4 hb4 h4 HV1 HV2' HV3 HB3
    go_wp2_with fail
    refine (awake10_any _).mono ?_
    rintro e w5 ⟨rfl, hb5⟩
    go_wp2_with fail
    refine (h5 _).mono ?_
    rintro e w6 ⟨rfl, hb6⟩
    have hb := kl_step hb6 hb5
    go_wp2_with fail
    refine (h6 _).mono ?_
    rintro e w7 ⟨rfl, rfl⟩
    have HV1 := hide (HV1'.out.below hb)
    have HV2' := hide (HV2.out.below hb)
    have HV3 := hide (HV3'.out.below hb)
    have HV4' := hide (HV4.out.below hb)
    have HB5 := hide (kl_step hb HB4.out)
    clear hb hb5 hb6 h5 h6 HV1' HV2 HV3' HV4 HB4
    go_wp2_with fail
    refine (PlainS_any _ v1 v2 _ _ HV1.out HV2'.out).mono ?_
    rintro e w8 ⟨rfl, hb8⟩
    rw [decide_eq_true rfl]
    have HV3' := hide (HV3.out.below hb8)
    have HV4 := hide (HV4'.out.below hb8)
    have HB6 := hide (kl_step hb8 HB5.out)
    clear hb8 HV1 HV2' HV3 HV4' HB5
    go_wp2_with fail
    refine (PlainS_any _ v3 v4 _ _ HV3'.out HV4.out).mono ?_
    rintro e w9 ⟨rfl, hb9⟩
    rw [decide_eq_true rfl]
    have hB9 := kl_step hb9 HB6.out
    clear hb9
    go_wp2
    go_ret
    exact ⟨rfl, hB9⟩
end Go.Proofs.YtoffgmkkkdklpaaDoor
