/-
  The walk of garretlaw10.NameBounds.
-/
import Derived.Test.YtoffgmkkkdklpaaDoorAwake10
import Derived.Test.YtoffgmkkkdklpaaDoorIntsI
import Derived.Test.YtoffgmkkkdklpaaDoorNamePartsW
import Derived.Deep.RegionWith
import Derived.Deep.CutRange
namespace Go.Proofs.YtoffgmkkkdklpaaDoor
open Go.RowKit
set_option linter.unusedVariables false
set_option maxRecDepth 100000

theorem ns_right (n : Nat) : rightN (List.replicate n (110 : UInt8)) = (decide (1 ≤ n) && decide (n ≤ 32)) := by
  unfold rightN
  rw [Bool.eq_iff_iff]
  simp only [List.length_replicate, List.mem_replicate, decide_eq_true_eq, Bool.and_eq_true]
  constructor
  · rintro ⟨a, b, _⟩; exact ⟨a, b⟩
  · rintro ⟨a, b⟩
    refine ⟨a, b, by simp, by simp, ?_, ?_⟩
    · intro e
      have := List.mem_replicate.1 (by rw [e]; simp : (46 : UInt8) ∈ List.replicate n (110 : UInt8))
      exact absurd this.2 (by decide)
    · intro e
      have := List.mem_replicate.1 (by rw [e]; simp : (46 : UInt8) ∈ List.replicate n (110 : UInt8))
      exact absurd this.2 (by decide)
theorem ns_split (n : Nat) (h : n ≤ 49) : (splitS (47 :: List.replicate n (110 : UInt8))).2 = if n ≤ 32 then 0 else 17 := by
  have hc : cutL (List.replicate n (110 : UInt8)) = [List.replicate n 110] := cutL_one (by simp)
  have hr := ns_right n
  by_cases h0 : n = 0
  · subst h0; rfl
  · have hn : ¬ (List.replicate n (110 : UInt8) = [] ∨ List.replicate n (110 : UInt8) = [46]) := by
      rintro (e | e)
      · simp at e; exact h0 e
      · have := List.mem_replicate.1 (by rw [e]; simp : (46 : UInt8) ∈ List.replicate n (110 : UInt8))
        exact absurd this.2 (by decide)
    have hn2 : ¬ List.replicate n (110 : UInt8) = [46, 46] := by
      intro e
      have := List.mem_replicate.1 (by rw [e]; simp : (46 : UInt8) ∈ List.replicate n (110 : UInt8))
      exact absurd this.2 (by decide)
    by_cases h2 : n ≤ 32
    · rw [if_pos h2, splitS_some (ns := [List.replicate n 110]) (by simp; omega) (by rw [hc, walkS_take (.inr (by rw [hr]; simp [h2]; omega))]; rfl)]
    · rw [if_neg h2, splitS_none (by rw [cutL_slash, walkS_skip (.inl rfl), hc, walkS_bad hn (not_or.2 ⟨hn2, by rw [hr]; simp [h2]⟩)])]
/-- A hundred times "/abc". -/
def abcs (n : Nat) : List UInt8 := (List.replicate n [47, 97, 98, 99]).flatten
theorem abcs_succ (n : Nat) : abcs (n + 1) = abcs n ++ [47, 97, 98, 99] := by
  unfold abcs
  rw [List.replicate_succ', List.flatten_append]; rfl
theorem abcs_length (n : Nat) : (abcs n).length = 4 * n := by
  induction n with
  | zero => rfl
  | succ n ih => rw [abcs_succ, List.length_append, ih]; simp; omega
theorem abcs_walk (n : Nat) : ∃ ns, walkS (cutL (abcs n)) = some ns := by
  induction n with
  | zero => exact ⟨_, rfl⟩
  | succ n ih =>
    obtain ⟨ns, h⟩ := ih
    refine ⟨ns ++ [[97, 98, 99]], ?_⟩
    rw [abcs_succ, cutL_more, walkS_append, h, show walkS (cutL [97, 98, 99]) = some [[97, 98, 99]] by kernel_rfl]
    rfl
theorem abcs_head (n : Nat) : ∃ t, abcs (n + 1) = 47 :: t := ⟨[97, 98, 99] ++ abcs n, by unfold abcs; rw [List.replicate_succ]; rfl⟩
theorem abcs_split : (splitS (abcs 100)).2 = 0 := by
  obtain ⟨ns, h⟩ := abcs_walk 100
  obtain ⟨t, ht⟩ := abcs_head 99
  have hl := abcs_length 100
  rw [ht] at h hl ⊢
  rw [cutL_slash, walkS_skip (.inl rfl)] at h
  rw [splitS_some (by simp at hl; omega) h]
theorem abcs_long : splitS (abcs 100 ++ [47]) = ([], 17) := splitS_long (by simp [abcs_length])
theorem a_split : splitS [97] = ([], 17) := by kernel_rfl
theorem dot_right : rightN [46] = false := by kernel_rfl
theorem dots_right : rightN [46, 46, 46] = true := by kernel_rfl
theorem odd_right (c : UInt8) : rightN [97, c] = (decide (c ≠ 0) && decide (c ≠ 47)) := by
  unfold rightN
  rw [Bool.eq_iff_iff]
  simp only [List.mem_cons, List.not_mem_nil, or_false, decide_eq_true_eq, Bool.and_eq_true, List.length_cons, List.length_nil]
  constructor
  · rintro ⟨_, _, h0, h1, _⟩
    exact ⟨fun e => h0 (.inr e.symm), fun e => h1 (.inr e.symm)⟩
  · rintro ⟨h0, h1⟩
    refine ⟨by omega, by omega, ?_, ?_, by simp, by simp⟩
    · rintro (h | h)
      · exact absurd h (by decide)
      · exact h0 h.symm
    · rintro (h | h)
      · exact absurd h (by decide)
      · exact h1 h.symm
/-- A byte's text. -/
theorem one_text (c : Int) (h : 0 ≤ c ∧ c < 256) : ∃ b : UInt8, strOfNums [c] = ⟨#[b]⟩ ∧ (b = 0 ↔ c = 0) ∧ (b = 47 ↔ c = 47) := by
  obtain ⟨n, rfl⟩ := Int.eq_ofNat_of_zero_le h.1
  refine ⟨UInt8.ofNat n, ?_, ?_, ?_⟩
  · simp [strOfNums]
  · rw [← UInt8.toNat_inj]
    simp
    omega
  · rw [← UInt8.toNat_inj]
    simp
    omega

set_option maxHeartbeats 16000000 in
theorem NameBounds_walk (n c : Int) (w : World) (hn : (Lit.int .i64 n).wf = true) (hc : (Lit.int .u8 c).wf = true) : Calls Tryd.prog 5 #[.int .i64 n, .int .u8 c] w fun e w' => e = .returned (.bool true) ∧ Below w.heap.size w w' := by
  obtain ⟨j, hj, hjw⟩ := cut_i n 50 (by omega) (by omega)
  have hcb := wf_u8 hc
  obtain ⟨hc0, hc1⟩ := hcb
  clear hn hc
  go_enter Tryd.func5, Tryd.ntmps5
  go_wp2
  go_loop [5, 6] (fun x i => ∃ (m : Nat) (X : ByteArray), m ≤ j ∧ i = .int .i64 m ∧ x = .string X ∧ bl X = List.replicate m 110) (fun _ i => j - (intOf i).toNat)
  case atStart => exact ⟨0, ⟨#[]⟩, by omega, rfl, rfl, rfl⟩
  case round =>
    obtain ⟨m, X, hm, rfl, rfl, hX⟩ := hrel
    have hXs : X.size = m := by rw [← bl_length, hX, List.length_replicate]
    have HX := hide hX
    have hXm : X.size ≤ 50 := by omega
    have HXS := hide hXs
    clear hX hXs
    by_cases hlt : m < j
    · have hlt' : (m : Int) < j := by omega
      go_wp2
      exact ⟨⟨m + 1, _, by omega, by go_num, rfl, by rw [bl_append, HX.out, List.replicate_succ']; rfl⟩, by simp [intOf]; omega⟩
    · obtain rfl : m = j := by omega
      have hge : ¬ ((m : Int) < m) := by omega
      clear hlt
      go_wp2
      go_loop [7, 8] (fun x i => ∃ (k : Nat) (Y : ByteArray), k ≤ 100 ∧ i = .int .i64 k ∧ x = .string Y ∧ bl Y = abcs k) (fun _ i => 100 - (intOf i).toNat)
      case atStart => exact ⟨0, ⟨#[]⟩, by omega, rfl, rfl, rfl⟩
      case round =>
        obtain ⟨k, Y, hk, rfl, rfl, hY⟩ := hrel
        have hYs : Y.size = 4 * k := by rw [← bl_length, hY, abcs_length]
        have HY := hide hY
        have hYm : Y.size ≤ 400 := by omega
        have HYS := hide hYs
        clear hY hYs
        by_cases hlt : k < 100
        · have hlt' : (k : Int) < 100 := by omega
          go_wp2
          exact ⟨⟨k + 1, _, by omega, by go_num, rfl, by rw [bl_append, HY.out, abcs_succ]; rfl⟩, by simp [intOf]; omega⟩
        · obtain rfl : k = 100 := by omega
          clear hlt
          have h1 := fun w => Split_any w (⟨#[47]⟩ ++ X) (by unfold maxLen; rw [ByteArray.size_append]; show 1 + X.size ≤ _; omega)
          rw [bl_append, HX.out, show bl ⟨#[47]⟩ ++ List.replicate m (110 : UInt8) = 47 :: List.replicate m 110 from rfl] at h1
          have hr1 := ns_split m (by omega)
          have h2 := fun w => Split_any w Y (by unfold maxLen; omega)
          rw [HY.out] at h2
          have hr2 := abcs_split
          have h3 := fun w => Split_any w (Y ++ ⟨#[47]⟩) (by unfold maxLen; rw [ByteArray.size_append]; show Y.size + 1 ≤ _; omega)
          rw [bl_append, HY.out, show bl ⟨#[47]⟩ = [47] from rfl, abcs_long] at h3
          have h4 := fun w => Split_any w ⟨#[97]⟩ (by decide)
          rw [show bl ⟨#[97]⟩ = [97] from rfl, a_split] at h4
          obtain ⟨b, hb, hb0, hb47⟩ := one_text c ⟨hc0, hc1⟩
          have h5 := fun w => Right_any w (⟨#[97]⟩ ++ ⟨#[b]⟩) (by unfold maxLen; rw [ByteArray.size_append]; show 1 + 1 ≤ _; omega)
          rw [show bl (⟨#[97]⟩ ++ ⟨#[b]⟩) = [97, b] from rfl, odd_right] at h5
          have h6 := fun w => Right_any w X (by unfold maxLen; omega)
          rw [HX.out, ns_right] at h6
          have h7 := fun w => Right_any w ⟨#[46]⟩ (by decide)
          rw [show bl ⟨#[46]⟩ = [46] from rfl, dot_right] at h7
          have h8 := fun w => Right_any w ⟨#[46, 46, 46]⟩ (by decide)
          rw [show bl ⟨#[46, 46, 46]⟩ = [46, 46, 46] from rfl, dots_right] at h8
          generalize splitS (47 :: List.replicate m 110) = r1 at *
          generalize splitS (abcs 100) = r2 at *
          obtain ⟨x1, e1⟩ := r1
          obtain ⟨x2, e2⟩ := r2
          simp only at hr1 hr2
          subst hr2
          have hcase1 : (decide ((1 : Int) ≤ m) = false ∧ decide ((m : Int) ≤ 32) = true ∧ e1 = 0 ∧ (decide (1 ≤ m) && decide (m ≤ 32)) = false) ∨ (decide ((1 : Int) ≤ m) = true ∧ decide ((m : Int) ≤ 32) = true ∧ e1 = 0 ∧ (decide (1 ≤ m) && decide (m ≤ 32)) = true) ∨ (decide ((1 : Int) ≤ m) = true ∧ decide ((m : Int) ≤ 32) = false ∧ e1 = 17 ∧ (decide (1 ≤ m) && decide (m ≤ 32)) = false) := by
            by_cases q1 : 1 ≤ m
            · by_cases q2 : m ≤ 32
              · exact .inr (.inl ⟨by simp; omega, by simp; omega, by rw [hr1, if_pos q2], by simp [q1, q2]⟩)
              · exact .inr (.inr ⟨by simp; omega, by simp; omega, by rw [hr1, if_neg q2], by simp [q2]⟩)
            · exact .inl ⟨by simp; omega, by simp; omega, by rw [hr1, if_pos (by omega)], by simp [q1]⟩
          have hcase2 : ((c != 0) = false ∧ (decide (b ≠ 0) && decide (b ≠ 47)) = false) ∨ ((c != 0) = true ∧ (c != 47) = false ∧ (decide (b ≠ 0) && decide (b ≠ 47)) = false) ∨ ((c != 0) = true ∧ (c != 47) = true ∧ (decide (b ≠ 0) && decide (b ≠ 47)) = true) := by
            by_cases q1 : c = 0
            · exact .inl ⟨by simp [q1], by simp [hb0.2 q1]⟩
            · by_cases q2 : c = 47
              · exact .inr (.inl ⟨by simp [q1], by simp [q2], by simp [hb47.2 q2]⟩)
              · exact .inr (.inr ⟨by simp [q1], by simp [q2], by simp [mt hb0.1 q1, mt hb47.1 q2]⟩)
          generalize (decide (1 ≤ m) && decide (m ≤ 32)) = z1 at *
          generalize (decide (b ≠ 0) && decide (b ≠ 47)) = z2 at *
          have H1 := hide h1
          have H2 := hide h2
          have H3 := hide h3
          have H4 := hide h4
          have H5 := hide h5
          have H6 := hide h6
          have H7 := hide h7
          have H8 := hide h8
          have HB := hide hb
          have HC1 := hide hcase1
          have HC2 := hide hcase2
          clear h1 h2 h3 h4 h5 h6 h7 h8 hb hb0 hb47 hcase1 hcase2 hr1
          go_wp2_with fail
          refine (H1.out _).mono ?_
          rintro e w1 ⟨v1, rfl, _, hb1⟩
          go_wp2_with fail
          refine (H2.out _).mono ?_
          rintro e w2 ⟨v2, rfl, _, hb2⟩
          go_wp2_with fail
          refine (H3.out _).mono ?_
          rintro e w3 ⟨v3, rfl, _, hb3⟩
          go_wp2_with fail
          refine (H4.out _).mono ?_
          rintro e w4 ⟨v4, rfl, _, hb4⟩
          have HB4 := hide (kl_step hb4 (kl_step hb3 (kl_step hb2 hb1)))
          clear hb1 hb2 hb3 hb4 H1 H2 H3 H4
          have hcv : (convert 33 9 (.slice (some ⟨w4.heap.size, 0, none⟩) 1 1)).run Tryd.prog (w4.alloc (.cells #[.int .u8 c] 5)) = .ok (.string ⟨#[b]⟩) (w4.alloc (.cells #[.int .u8 c] 5)) := by
            have := conv_one w4 c ⟨hc0, hc1⟩ _ ((Blk.new w4 #[.int .u8 c] 5).cell 0)
            rwa [HB.out] at this
          have HA := hide (kl_step (kl_alloc w4 (.cells #[.int .u8 c] 5)) HB4.out)
          go_wp2_with fail
          refine (H5.out _).mono ?_
          rintro e w5 ⟨rfl, hb5⟩
          have HB5 := hide (kl_step hb5 HA.out)
          clear hb5 hcv HA HB4 H5 HB
          go_wp2_with fail
          refine (awake10_any _).mono ?_
          rintro e w6 ⟨rfl, hb6⟩
          go_wp2_with fail
          refine (H6.out _).mono ?_
          rintro e w7 ⟨rfl, hb7⟩
          have HB7 := hide (kl_step hb7 (kl_step hb6 HB5.out))
          clear hb6 hb7 HB5 H6
          rcases HC1.out with ⟨q1, q2, rfl, rfl⟩ | ⟨q1, q2, rfl, rfl⟩ | ⟨q1, q2, rfl, rfl⟩
          all_goals
            clear HC1
            rcases HC2.out with ⟨p1, rfl⟩ | ⟨p1, p2, rfl⟩ | ⟨p1, p2, rfl⟩
            all_goals
              clear HC2
              go_wp2_with fail
              refine (H7.out _).mono ?_
              rintro e w8 ⟨rfl, hb8⟩
              go_wp2_with fail
              refine (H8.out _).mono ?_
              rintro e w9 ⟨rfl, hb9⟩
              have HB9 := hide (kl_step hb9 (kl_step hb8 HB7.out))
              clear hb8 hb9
              go_wp2
              go_ret
              exact ⟨rfl, HB9.out⟩
end Go.Proofs.YtoffgmkkkdklpaaDoor
