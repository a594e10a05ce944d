/-
  The walk of garretlaw10.NameParts.
-/
import Derived.Test.YtoffgmkkkdklpaaDoorAwake10
import Derived.Test.YtoffgmkkkdklpaaDoorIntsI
import Derived.Deep.RegionWith
namespace Go.Proofs.YtoffgmkkkdklpaaDoor
open Go.RowKit
set_option linter.unusedVariables false
set_option maxRecDepth 100000

/-- What a text and "/" ahead of it have in common. -/
theorem parts_pair {l : List UInt8} (h1 : 1 ≤ l.length) (h3 : l.length ≤ 300) :
    ((partsS l).2.2 = 17 ∧ (partsS (47 :: l)).2.2 = 17) ∨ ((partsS l).2.2 = 0 ∧ (partsS l).2.1 = decide (l.head? = some 47) ∧ partsS (47 :: l) = ((partsS l).1, true, 0)) := by
  cases h : walkS (cutL l) with
  | none =>
    refine .inl ⟨by rw [partsS_none h], ?_⟩
    rw [partsS_none (by rw [cutL_slash, walkS_skip (.inl rfl), h])]
  | some ns =>
    refine .inr ?_
    rw [partsS_some h1 (by omega) h, partsS_some (l := 47 :: l) (by simp) (by simp; omega) (by rw [cutL_slash, walkS_skip (.inl rfl), h])]
    simp
theorem parts_zero {l : List UInt8} (h : (0 : UInt8) ∈ l) : partsS l = ([], false, 17) := by
  obtain ⟨p, hp, h0⟩ := cutL_mem (by decide) h
  exact partsS_none (walkS_none hp h0)
/-- A text of one byte, made of a slice. -/
theorem conv_one (w : World) (n : Int) (hn : 0 ≤ n ∧ n < 256) (w' : World) (h : w'.cell? ⟨w.heap.size, 0, none⟩ = some (.int .u8 n)) :
    (convert 33 9 (.slice (some ⟨w.heap.size, 0, none⟩) 1 1)).run Tryd.prog w' = .ok (.string (strOfNums [n])) w' := by
  have := run_convert_bytes_arg (P := Tryd.prog) w' 33 5 Tryd.underlying33 Tryd.underlying5 w.heap.size 0 1 1 [n] rfl (fun i hi => by
    match i, hi with
    | 0, _ => simpa using h) 9 Tryd.underlying9
  exact this
theorem parts_nil : partsS [] = ([], false, 17) := by kernel_rfl

set_option maxHeartbeats 8000000 in
theorem NameParts_walk (s : ByteArray) (c : Int) (w : World) (hs : s.size ≤ maxLen) (hc : (Lit.int .i64 c).wf = true) : Calls Tryd.prog 7 #[.string s, .int .i64 c] w fun e w' => e = .returned (.bool true) ∧ Below w.heap.size w w' := by
  have hm := hs
  unfold maxLen at hm
  clear hc
  by_cases hsz : 1 ≤ (s.size : Int) ∧ (s.size : Int) ≤ 300
  · obtain ⟨hl1, hl2⟩ := hsz
    obtain ⟨a, ha, haw⟩ := cut_i c ((s.size : Int) + 1) (by omega) (by omega)
    have hu : IntKind.u64.wrap ((s.size : Int) + 1) = (s.size : Int) + 1 := by rw [IntKind.wrap_u64]; omega
    have h1 := fun w => Parts_any w s hs
    have h2 := fun w => Parts_any w (⟨#[47]⟩ ++ s) (by unfold maxLen; rw [ByteArray.size_append]; show 1 + s.size ≤ _; omega)
    rw [bl_append, show bl ⟨#[47]⟩ = [47] from rfl, List.singleton_append] at h2
    have h3 := fun w => Parts_any w (s.extract 0 a ++ ⟨#[0]⟩ ++ s.extract a s.size) (by
      unfold maxLen
      rw [ByteArray.size_append, ByteArray.size_append, ByteArray.size_extract, ByteArray.size_extract]
      show _ + 1 + _ ≤ _
      omega)
    rw [bl_append, bl_append, parts_zero (by simp [show bl ⟨#[0]⟩ = [0] from rfl])] at h3
    have h4 := fun w => Parts_any w ⟨#[]⟩ (by decide)
    rw [show bl ⟨#[]⟩ = [] from rfl, parts_nil] at h4
    have hpp := parts_pair (l := bl s) (by rw [bl_length]; omega) (by rw [bl_length]; omega)
    have h0 : 0 < s.size := by omega
    have hh := head_slash h0
    generalize decide ((bl s).head? = some 47) = hd at *
    generalize partsS (bl s) = r at *
    generalize partsS (47 :: bl s) = q at *
    obtain ⟨ns, top, er⟩ := r
    obtain ⟨ms, top2, er2⟩ := q
    simp only at hpp
    have ha' : (a : Int) ≤ s.size := by omega
    have H1 := hide h1
    have H2 := hide h2
    have H3 := hide h3
    have H4 := hide h4
    have HPP := hide hpp
    clear h1 h2 h3 h4 hpp hs ha
    go_enter Tryd.func7, Tryd.ntmps7
    go_wp2_with fail
    refine (H1.out _).mono ?_
    rintro e w1 ⟨v1, rfl, hv1, hb1⟩
    have HV1 := hide hv1
    have HB1 := hide hb1
    clear hv1 hb1 H1
    go_wp2_with fail
    refine (H2.out _).mono ?_
    rintro e w2 ⟨v2, rfl, hv2, hb2⟩
    have HV1' := hide (HV1.out.below hb2)
    have HV2 := hide hv2
    have HB2 := hide (kl_step hb2 HB1.out)
    clear hv2 hb2 H2 HV1 HB1
    have h3 := H3.out
    clear H3
    have hcv : (convert 33 9 (.slice (some ⟨w2.heap.size, 0, none⟩) 1 1)).run Tryd.prog (w2.alloc (.cells #[.int .u8 0] 5)).drew = .ok (.string ⟨#[0]⟩) (w2.alloc (.cells #[.int .u8 0] 5)).drew :=
      conv_one w2 0 (by omega) _ ((Blk.new w2 #[.int .u8 0] 5).cell 0)
    go_wp2_with fail
    go_region_with (go_at_call 11; refine (h3 _).mono ?_; rintro e w3 ⟨v3, rfl, hv3, hb3⟩)
    have hd2 : Below w2.heap.size w2 (w2.alloc (.cells #[.int .u8 0] 5)).drew := ((Below.refl _ _).alloc (Nat.le_refl _) _).drew
    have hb := kl_step hb3 hd2
    have HV1 := hide (HV1'.out.below hb)
    have HV2' := hide (HV2.out.below hb)
    have HB3 := hide (kl_step hb HB2.out)
    clear hv3 hb3 hd2 hb HV1' HV2 HB2 hcv h3
    go_wp2_with fail
    refine (H4.out _).mono ?_
    rintro e w4 ⟨v4, rfl, hv4, hb4⟩
    have HV1' := hide (HV1.out.below hb4)
    have HV2 := hide (HV2'.out.below hb4)
    have HB4 := hide (kl_step hb4 HB3.out)
    clear hv4 hb4 HV1 HV2' HB3 H4
    rcases HPP.out with ⟨rfl, rfl⟩ | ⟨rfl, rfl, hq⟩
    · go_wp2_with fail
      refine (awake10_any _).mono ?_
      rintro e w5 ⟨rfl, hb5⟩
      have HB5 := hide (kl_step hb5 HB4.out)
      clear hb5
      go_wp2
      go_ret
      exact ⟨rfl, HB5.out⟩
    · simp only [Prod.mk.injEq] at hq
      obtain ⟨rfl, rfl, rfl⟩ := hq
      go_wp2_with fail
      refine (PlainS_any _ v1 v2 _ _ HV1'.out HV2.out).mono ?_
      rintro e w5 ⟨rfl, hb5⟩
      rw [decide_eq_true rfl]
      have HB5 := hide (kl_step hb5 HB4.out)
      clear hb5
      go_wp2_with fail
      refine (awake10_any _).mono ?_
      rintro e w6 ⟨rfl, hb6⟩
      have HB6 := hide (kl_step hb6 HB5.out)
      clear hb6
      go_wp2
      go_ret
      exact ⟨rfl, HB6.out⟩
  · by_cases hl1 : (s.size : Int) < 1
    · clear hsz hs
      go_enter Tryd.func7, Tryd.ntmps7
      go_wp2_with fail
      refine (awake10_any _).mono ?_
      rintro e w5 ⟨rfl, hb5⟩
      go_wp2
      go_ret
      exact ⟨rfl, hb5⟩
    · have hl2 : (300 : Int) < s.size := by omega
      clear hsz hs
      go_enter Tryd.func7, Tryd.ntmps7
      go_wp2_with fail
      refine (awake10_any _).mono ?_
      rintro e w5 ⟨rfl, hb5⟩
      go_wp2
      go_ret
      exact ⟨rfl, hb5⟩
end Go.Proofs.YtoffgmkkkdklpaaDoor
