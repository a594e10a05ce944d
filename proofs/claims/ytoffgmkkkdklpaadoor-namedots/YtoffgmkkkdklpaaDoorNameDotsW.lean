/-
  The walk of garretlaw10.NameDots.
-/
import Derived.Test.YtoffgmkkkdklpaaDoorAwake10
import Derived.Test.YtoffgmkkkdklpaaDoorIntsI
import Derived.Deep.CutRange
namespace Go.Proofs.YtoffgmkkkdklpaaDoor
open Go.RowKit
set_option linter.unusedVariables false
set_option maxRecDepth 100000

theorem walk_join {x p : List UInt8} {a b : List (List UInt8)} (ha : walkS (cutL x) = some a) (hb : walkS (cutL p) = some b) : walkS (cutL (x ++ 47 :: p)) = some (a ++ b) := by
  rw [cutL_more, walkS_append, ha, hb]; rfl
theorem kind0 : walkS (cutL []) = some [] := by kernel_rfl
theorem kind1 : walkS (cutL [46]) = some [] := by kernel_rfl
theorem kind2 : walkS (cutL [46, 46]) = some [[46, 46]] := by kernel_rfl
theorem kind3 : walkS (cutL [97, 98]) = some [[97, 98]] := by kernel_rfl

/-- What stands behind some of the numbers. -/
def DotsAt (S : ByteArray) (want : List (List UInt8)) (k : Nat) : Prop := walkS (cutL (bl S)) = some want ∧ walkS (cutL (97 :: bl S)) = some ([97] :: want) ∧ S.size ≤ 3 * k ∧ want.length ≤ k
theorem DotsAt.step {S : ByteArray} {want b : List (List UInt8)} {k : Nat} (h : DotsAt S want k) (t : ByteArray) (p : List UInt8) (ht : bl t = 47 :: p) (hp : walkS (cutL p) = some b) (hn : t.size ≤ 3) (hb : b.length ≤ 1) : DotsAt (S ++ t) (want ++ b) (k + 1) := by
  obtain ⟨h1, h2, h3, h4⟩ := h
  refine ⟨?_, ?_, ?_, ?_⟩
  · rw [bl_append, ht]; exact walk_join h1 hp
  · rw [bl_append, ht, ← List.cons_append]
    exact walk_join h2 hp
  · rw [ByteArray.size_append]; omega
  · rw [List.length_append]; omega

theorem xs_right {n : Nat} (h1 : 30 ≤ n) : rightN (List.replicate n (120 : UInt8)) = decide (n ≤ 32) := by
  unfold rightN
  rw [decide_eq_decide]
  simp only [List.length_replicate, List.mem_replicate]
  constructor
  · rintro ⟨_, h, _⟩; exact h
  · intro h
    refine ⟨by omega, h, by simp, by simp, ?_, ?_⟩
    · intro e; have := congrArg List.length e; simp at this; omega
    · intro e; have := congrArg List.length e; simp at this; omega
theorem xs_walk {n : Nat} (h1 : 30 ≤ n) : walkS (cutL (List.replicate n (120 : UInt8))) = if n ≤ 32 then some [List.replicate n 120] else none := by
  rw [cutL_one (by simp)]
  have h0 : ¬ (List.replicate n (120 : UInt8) = [] ∨ List.replicate n (120 : UInt8) = [46]) := by
    rintro (e | e)
    · have := congrArg List.length e; simp at this; omega
    · have := congrArg List.length e; simp at this; omega
  have h2 : ¬ List.replicate n (120 : UInt8) = [46, 46] := by intro e; have := congrArg List.length e; simp at this; omega
  by_cases h : n ≤ 32
  · rw [if_pos h, walkS_take (.inr (by rw [xs_right h1]; exact decide_eq_true h))]; rfl
  · rw [if_neg h, walkS_bad h0 (not_or.2 ⟨h2, by rw [xs_right h1, decide_eq_false h]; exact Bool.false_ne_true⟩)]
/-- The first answer. -/
theorem dots_first {S : ByteArray} {want : List (List UInt8)} {k : Nat} (h : DotsAt S want k) (hk : k ≤ 30) : splitS (bl (⟨#[47]⟩ ++ S)) = (want, 0) := by
  rw [bl_append, show bl ⟨#[47]⟩ = [47] from rfl, List.singleton_append]
  exact splitS_some (by rw [bl_length]; have := h.2.2.1; omega) h.1
/-- The second answer. -/
theorem dots_second {S X : ByteArray} {want : List (List UInt8)} {k n : Nat} (h : DotsAt S want k) (hk : k ≤ 30) (h1 : 30 ≤ n) (hn : n ≤ 34) (hx : bl X = List.replicate n 120) :
    (splitS (bl (⟨#[47, 97]⟩ ++ S ++ ⟨#[47]⟩ ++ X))).2 = if n ≤ 32 then 0 else 17 := by
  have e : bl (⟨#[47, 97]⟩ ++ S ++ ⟨#[47]⟩ ++ X) = 47 :: ((97 :: bl S) ++ 47 :: List.replicate n 120) := by
    rw [bl_append, bl_append, bl_append, hx, show bl ⟨#[47, 97]⟩ = [47, 97] from rfl, show bl ⟨#[47]⟩ = [47] from rfl]
    simp
  rw [e]
  have hl : ((97 :: bl S) ++ 47 :: List.replicate n (120 : UInt8)).length ≤ 399 := by
    have := h.2.2.1
    simp [bl_length]; omega
  have hw := xs_walk h1
  by_cases h2 : n ≤ 32
  · rw [if_pos h2] at hw ⊢
    rw [splitS_some hl (walk_join h.2.1 hw)]
  · rw [if_neg h2] at hw ⊢
    rw [splitS_none (by rw [cutL_slash, walkS_skip (.inl rfl), cutL_more, walkS_append, h.2.1, hw]; rfl)]

set_option maxHeartbeats 8000000 in
theorem NameDots_walk (lv : Value) (ls : List Int) (c : Int) (w : World) (hl : IRow .i64 w lv ls) (hc : (Lit.int .i64 c).wf = true) : Calls Tryd.prog 6 #[lv, .int .i64 c] w fun e w' => e = .returned (.bool true) ∧ Below w.heap.size w w' := by
  have hlr := hl.lenII
  have hlm := hl.len
  unfold maxLen at hlm
  have HL := hide hl
  obtain ⟨j, hj, hjw⟩ := cut_i c 5 (by omega) (by omega)
  clear hl hc
  obtain ⟨len, hln⟩ : ∃ n, ls.length = n := ⟨_, rfl⟩
  have HN := hide hln
  rw [hln] at hlm
  simp only [hln] at hlr
  clear hln
  go_enter Tryd.func6, Tryd.ntmps6
  go_wp2
  go_loopw [5, 6, 7] (fun s v i wr => ∃ (k : Nat) (S : ByteArray) (want : List (List UInt8)), k ≤ len ∧ k ≤ 30 ∧ i = .int .i64 k ∧ s = .string S ∧ DotsAt S want k ∧ SOwn w.heap.size wr v (want.map tx) ∧ Below w.heap.size w wr) (fun _ _ i _ => 30 - (intOf i).toNat)
  case atStart => exact ⟨0, ⟨#[]⟩, [], Nat.zero_le _, by omega, rfl, rfl, ⟨kind0, by kernel_rfl, by decide, by decide⟩, SOwn.nil _ _, Below.refl _ _⟩
  case round =>
    obtain ⟨k, S, want, hk, hk30, rfl, rfl, hda, how, hbk⟩ := hrel
    have HD := hide hda
    have HOW := hide how
    have HBK := hide hbk
    have hss : S.size ≤ 90 := by have := hda.2.2.1; omega
    have hwl : want.length ≤ 30 := by have := hda.2.2.2; omega
    clear hda how hbk
    by_cases hlt : k < len ∧ k < 30
    · obtain ⟨hk1, hk2⟩ := hlt
      have hk1' : (k : Int) < len := by omega
      have hk2' : (k : Int) < 30 := by omega
      obtain ⟨b, o, _, hix, hce⟩ := HL.out.idxII k (by rw [HN.out]; exact hk1)
      have hce2 := kl_cell HBK.out hce
      clear hce
      generalize ls.getD k 0 = z at *
      obtain ⟨q, hq, hqz⟩ : ∃ q : Nat, q < 4 ∧ (IntKind.u64.wrap z).tmod 4 = (q : Int) := by
        have h0 := Int.emod_nonneg z (by omega : (18446744073709551616 : Int) ≠ 0)
        refine ⟨((z % 18446744073709551616) % 4).toNat, by omega, ?_⟩
        rw [IntKind.wrap_u64, Int.tmod_eq_emod_of_nonneg h0]
        omega
      match q, hq, hqz with
      | 0, _, hqz =>
        have HD2 := hide (HD.out.step ⟨#[47]⟩ [] rfl kind0 (by decide) (by decide))
        go_wp2
        exact ⟨⟨k + 1, _, want ++ [], by omega, by omega, by go_num, rfl, HD2.out, by rw [List.append_nil]; exact HOW.out, HBK.out⟩, by simp [intOf]; omega⟩
      | 1, _, hqz =>
        have HD2 := hide (HD.out.step ⟨#[47, 46]⟩ [46] rfl kind1 (by decide) (by decide))
        go_wp2
        exact ⟨⟨k + 1, _, want ++ [], by omega, by omega, by go_num, rfl, HD2.out, by rw [List.append_nil]; exact HOW.out, HBK.out⟩, by simp [intOf]; omega⟩
      | 2, _, hqz =>
        have HD2 := hide (HD.out.step ⟨#[47, 46, 46]⟩ [46, 46] rfl kind2 (by decide) (by decide))
        have HNEW := hide (strs_new wr [⟨#[46, 46]⟩] #[.string ⟨#[46, 46]⟩] 1 rfl rfl (by decide) (fun x hx => by simp at hx; subst hx; decide))
        have HOW2 := hide (HOW.out.alloc (.cells #[.string ⟨#[46, 46]⟩] 9))
        have HB2 := hide (HBK.out.alloc HBK.out.size (.cells #[.string ⟨#[46, 46]⟩] 9))
        go_wp2_with (at_builtin; refine wpList_append_texts rfl _ _ rfl w.heap.size u6 _ (want.map tx) [⟨#[46, 46]⟩] rfl HOW2.out rfl HNEW.out (by simp; omega) HB2.out.size ?_)
        intro v2 w2 hown2 hg2
        have hb2 : Below w.heap.size w w2 := HOW2.out.grown_below HB2.out hg2 (Nat.le_refl _) HB2.out.size
        rw [tx_snoc] at hown2
        go_wp2
        exact ⟨⟨k + 1, _, want ++ [[46, 46]], by omega, by omega, by go_num, rfl, HD2.out, hown2, hb2⟩, by simp [intOf]; omega⟩
      | 3, _, hqz =>
        have HD2 := hide (HD.out.step ⟨#[47, 97, 98]⟩ [97, 98] rfl kind3 (by decide) (by decide))
        have HNEW := hide (strs_new wr [⟨#[97, 98]⟩] #[.string ⟨#[97, 98]⟩] 1 rfl rfl (by decide) (fun x hx => by simp at hx; subst hx; decide))
        have HOW2 := hide (HOW.out.alloc (.cells #[.string ⟨#[97, 98]⟩] 9))
        have HB2 := hide (HBK.out.alloc HBK.out.size (.cells #[.string ⟨#[97, 98]⟩] 9))
        go_wp2_with (at_builtin; refine wpList_append_texts rfl _ _ rfl w.heap.size u6 _ (want.map tx) [⟨#[97, 98]⟩] rfl HOW2.out rfl HNEW.out (by simp; omega) HB2.out.size ?_)
        intro v2 w2 hown2 hg2
        have hb2 : Below w.heap.size w w2 := HOW2.out.grown_below HB2.out hg2 (Nat.le_refl _) HB2.out.size
        rw [tx_snoc] at hown2
        go_wp2
        exact ⟨⟨k + 1, _, want ++ [[97, 98]], by omega, by omega, by go_num, rfl, HD2.out, hown2, hb2⟩, by simp [intOf]; omega⟩
      | q + 4, h, _ => omega
    · have hS1 := fun w => Split_any w (⟨#[47]⟩ ++ S) (by unfold maxLen; rw [ByteArray.size_append]; show 1 + S.size ≤ _; omega)
      rw [dots_first HD.out hk30] at hS1
      have hS2 := fun (X : ByteArray) (hX : X.size ≤ 34) w => Split_any w (⟨#[47, 97]⟩ ++ S ++ ⟨#[47]⟩ ++ X) (by
        unfold maxLen
        rw [ByteArray.size_append, ByteArray.size_append, ByteArray.size_append]
        show 2 + S.size + 1 + X.size ≤ _
        omega)
      have hS3 := fun (X : ByteArray) (hx : bl X = List.replicate (30 + j) 120) => dots_second HD.out hk30 (by omega) (by omega) hx
      have HS1 := hide hS1
      have HS2 := hide hS2
      have HS3 := hide hS3
      clear hS1 hS2 hS3
      refine (Classical.em (k < len)).elim (fun h => ?k1) (fun h => ?k2)
      case' k1 =>
        have h1 : (k : Int) < len := by omega
        have h2 : ¬ (k : Int) < 30 := by omega
        clear hlt
        go_upto_region 14 with fail
      case' k2 =>
        have h1 : ¬ (k : Int) < len := by omega
        clear hlt
        go_upto_region 14 with fail
      all_goals
        clear h
        go_wp2_with fail
        refine (HS1.out _).mono ?_
        rintro e w1 ⟨v1, rfl, hv1, hb1⟩
        have HV1 := hide hv1
        have HW1 := hide (HOW.out.row.below hb1)
        have HB1 := hide (HBK.out.trans (hb1.mono HBK.out.size))
        clear hv1 hb1
        go_wp2
        go_loop [10, 11] (fun x i => ∃ (m : Nat) (X : ByteArray), m ≤ 30 + j ∧ i = .int .i64 m ∧ x = .string X ∧ bl X = List.replicate m 120) (fun _ i => 30 + j - (intOf i).toNat)
        case atStart => exact ⟨0, ⟨#[]⟩, by omega, rfl, rfl, rfl⟩
        case round =>
          obtain ⟨m, X, hm, rfl, rfl, hX⟩ := hrel
          have hXs : X.size = m := by rw [← bl_length, hX, List.length_replicate]
          have HX := hide hX
          have hXm : X.size ≤ 34 := by omega
          have HXS := hide hXs
          clear hX hXs
          by_cases hlt : m < 30 + j
          · have hlt' : (m : Int) < 30 + j := by omega
            go_wp2
            exact ⟨⟨m + 1, _, by omega, by go_num, rfl, by rw [bl_append, HX.out, List.replicate_succ']; rfl⟩, by simp [intOf]; omega⟩
          · obtain rfl : m = 30 + j := by omega
            have h3 := HS3.out X HX.out
            have h2 := HS2.out X hXm
            have hge : ¬ ((30 : Int) + j < 30 + j) := by omega
            clear hlt
            generalize splitS (bl (⟨#[47, 97]⟩ ++ S ++ ⟨#[47]⟩ ++ X)) = r at *
            obtain ⟨r1, r2⟩ := r
            simp only at h3
            have H2 := hide h2
            clear h2
            by_cases h32 : 30 + j ≤ 32
            · rw [if_pos h32] at h3
              subst h3
              have d32 : decide ((30 : Int) + j ≤ 32) = true := decide_eq_true (by omega)
              go_wp2_with fail
              refine (H2.out _).mono ?_
              rintro e w2 ⟨v2, rfl, hv2, hb2⟩
              go_wp2_with fail
              refine (awake10_any _).mono ?_
              rintro e w3 ⟨rfl, hb3⟩
              have hb := kl_step hb3 hb2
              have HV2 := hide (HV1.out.below hb)
              have HW2 := hide (HW1.out.below hb)
              have HB2 := hide (kl_step hb HB1.out)
              clear hb hb2 hb3 hv2
              go_wp2_with fail
              refine (PlainS_any _ v1 u6 _ _ HV2.out HW2.out).mono ?_
              rintro e w4 ⟨rfl, hb4⟩
              rw [decide_eq_true rfl]
              have HB3 := hide (kl_step hb4 HB2.out)
              clear hb4
              go_wp2
              go_ret
              exact ⟨rfl, HB3.out⟩
            · rw [if_neg h32] at h3
              subst h3
              have d32 : decide ((30 : Int) + j ≤ 32) = false := decide_eq_false (by omega)
              go_wp2_with fail
              refine (H2.out _).mono ?_
              rintro e w2 ⟨v2, rfl, hv2, hb2⟩
              go_wp2_with fail
              refine (awake10_any _).mono ?_
              rintro e w3 ⟨rfl, hb3⟩
              have hb := kl_step hb3 hb2
              have HV2 := hide (HV1.out.below hb)
              have HW2 := hide (HW1.out.below hb)
              have HB2 := hide (kl_step hb HB1.out)
              clear hb hb2 hb3 hv2
              go_wp2_with fail
              refine (PlainS_any _ v1 u6 _ _ HV2.out HW2.out).mono ?_
              rintro e w4 ⟨rfl, hb4⟩
              rw [decide_eq_true rfl]
              have HB3 := hide (kl_step hb4 HB2.out)
              clear hb4
              go_wp2
              go_ret
              exact ⟨rfl, HB3.out⟩
end Go.Proofs.YtoffgmkkkdklpaaDoor
