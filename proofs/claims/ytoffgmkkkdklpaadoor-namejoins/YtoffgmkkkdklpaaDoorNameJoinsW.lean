/-
  The walk of garretlaw10.NameJoins.
-/
import Derived.Test.YtoffgmkkkdklpaaDoorAwake10
import Derived.Test.YtoffgmkkkdklpaaDoorIntsI
import Derived.Deep.CutRange
namespace Go.Proofs.YtoffgmkkkdklpaaDoor
open Go.RowKit
set_option linter.unusedVariables false
set_option maxRecDepth 100000

/-- A part that stays. -/
def good (p : List UInt8) : Prop := p = [46, 46] ∨ rightN p = true
theorem good_no {p : List UInt8} (h : good p) : (47 : UInt8) ∉ p ∧ p ≠ [] ∧ p.length ≤ 32 := by
  rcases h with rfl | h
  · simp
  · unfold rightN at h
    have := of_decide_eq_true h
    exact ⟨this.2.2.2.1, fun e => by subst e; simp at this, this.2.1⟩
/-- Names, each behind so many slashes. -/
def joinL (m : Nat) (ns : List (List UInt8)) : List UInt8 := (ns.map fun p => List.replicate m 47 ++ p).flatten
theorem joinL_snoc (m : Nat) (ns : List (List UInt8)) (p : List UInt8) : joinL m (ns ++ [p]) = joinL m ns ++ List.replicate m 47 ++ p := by simp [joinL]
theorem joinL_cons (m : Nat) (ns : List (List UInt8)) (p : List UInt8) : joinL m (p :: ns) = List.replicate m 47 ++ (p ++ joinL m ns) := by simp [joinL]
theorem slashes_walk (m : Nat) (l : List UInt8) : walkS (cutL (List.replicate m 47 ++ l)) = walkS (cutL l) := by
  induction m with
  | zero => rfl
  | succ m ih => rw [List.replicate_succ, List.cons_append, cutL_slash, walkS_skip (.inl rfl), ih]
theorem joinL_walk {m : Nat} (hm : 1 ≤ m) : ∀ {ns : List (List UInt8)}, (∀ q ∈ ns, good q) → ∀ {p : List UInt8}, good p → walkS (cutL (p ++ joinL m ns)) = some (p :: ns) := by
  intro ns
  induction ns with
  | nil =>
    intro _ p hp
    rw [show joinL m [] = [] from rfl, List.append_nil, cutL_one (good_no hp).1, walkS_take hp]
    rfl
  | cons q ns ih =>
    intro h p hp
    obtain ⟨k, rfl⟩ : ∃ k, m = k + 1 := ⟨m - 1, by omega⟩
    rw [joinL_cons, List.replicate_succ, List.cons_append, cutL_more, cutL_one (good_no hp).1, List.singleton_append, walkS_take hp, slashes_walk, ih (fun r hr => h r (List.mem_cons_of_mem _ hr)) (h q (List.mem_cons_self ..))]
    rfl
/-- What is joined is split as it was; without the first slashes they are parts all the same; and so it is with what is passed over behind. -/
theorem join_all {m : Nat} (hm : 1 ≤ m) {ns : List (List UInt8)} (h : ∀ q ∈ ns, good q) (h0 : joinL m ns ≠ []) (hl : (joinL m ns).length ≤ 400) :
    splitS (joinL m ns) = (ns, 0) ∧ partsS ((joinL m ns).drop m) = (ns, false, 0) ∧ m ≤ (joinL m ns).length ∧ ((joinL m ns).length ≤ 397 → splitS (joinL m ns ++ [47, 46, 47]) = (ns, 0)) := by
  cases ns with
  | nil => exact absurd rfl h0
  | cons p ns =>
    have hp := h p (List.mem_cons_self ..)
    have hw := joinL_walk hm (ns := ns) (fun q hq => h q (List.mem_cons_of_mem _ hq)) hp
    obtain ⟨hn1, hn2, hn3⟩ := good_no hp
    have hj : joinL m (p :: ns) = List.replicate m 47 ++ (p ++ joinL m ns) := joinL_cons m ns p
    have hlen : (joinL m (p :: ns)).length = m + (p ++ joinL m ns).length := by rw [hj, List.length_append, List.length_replicate]
    obtain ⟨k, rfl⟩ : ∃ k, m = k + 1 := ⟨m - 1, by omega⟩
    have hj2 : joinL (k + 1) (p :: ns) = 47 :: (List.replicate k 47 ++ (p ++ joinL (k + 1) ns)) := by rw [hj, List.replicate_succ]; rfl
    have hw2 : walkS (cutL (List.replicate k 47 ++ (p ++ joinL (k + 1) ns))) = some (p :: ns) := by rw [slashes_walk, hw]
    refine ⟨?_, ?_, by omega, ?_⟩
    · rw [hj2] at hl ⊢
      exact splitS_some (by simp at hl ⊢; omega) hw2
    · have hd : (joinL (k + 1) (p :: ns)).drop (k + 1) = p ++ joinL (k + 1) ns := by rw [hj, List.drop_left' (by simp)]
      rw [hd]
      have hpl : 1 ≤ p.length := List.length_pos_iff.2 hn2
      rw [partsS_some (by rw [List.length_append]; omega) (by omega) hw]
      congr 2
      rw [decide_eq_false_iff_not]
      cases p with
      | nil => exact absurd rfl hn2
      | cons c t =>
        intro e
        simp at e
        exact hn1 (by rw [e]; simp)
    · intro hl3
      rw [hj2] at hl3 ⊢
      rw [List.cons_append]
      refine splitS_some (by simp at hl3 ⊢; omega) ?_
      rw [show List.replicate k (47 : UInt8) ++ (p ++ joinL (k + 1) ns) ++ [47, 46, 47] = (List.replicate k (47 : UInt8) ++ (p ++ joinL (k + 1) ns)) ++ 47 :: [46, 47] from rfl, cutL_more, walkS_append, hw2, show walkS (cutL [46, 47]) = some [] by kernel_rfl]
      simp

set_option maxHeartbeats 16000000 in
theorem NameJoins_walk (lv : Value) (ls : List ByteArray) (n : Int) (w : World) (hl : SRow w lv ls) (hn : (Lit.int .i64 n).wf = true) : Calls Tryd.prog 4 #[lv, .int .i64 n] w fun e w' => e = .returned (.bool true) ∧ Below w.heap.size w w' := by
  have hlr := hl.lenRun
  have hlm := hl.len
  unfold maxLen at hlm
  have HL := hide hl
  obtain ⟨j, hj, hjw⟩ := cut_i n 4 (by omega) (by omega)
  clear hl hn
  obtain ⟨len, hln⟩ : ∃ n, ls.length = n := ⟨_, rfl⟩
  have HN := hide hln
  rw [hln] at hlm
  simp only [hln] at hlr
  clear hln
  go_enter Tryd.func4, Tryd.ntmps4
  go_wp2
  go_loop [7, 8] (fun x i => ∃ (m : Nat) (X : ByteArray), m ≤ j + 1 ∧ i = .int .i64 m ∧ x = .string X ∧ bl X = List.replicate m 47) (fun _ i => j + 1 - (intOf i).toNat)
  case atStart => exact ⟨0, ⟨#[]⟩, by omega, rfl, rfl, rfl⟩
  case round =>
    obtain ⟨m, X, hm, rfl, rfl, hX⟩ := hrel
    have hXs : X.size = m := by rw [← bl_length, hX, List.length_replicate]
    have HX := hide hX
    have hXm : X.size ≤ 4 := by omega
    have HXS := hide hXs
    clear hX hXs
    by_cases hlt : m ≤ j
    · have hlt' : (m : Int) ≤ j := by omega
      go_wp2
      exact ⟨⟨m + 1, _, by omega, by go_num, rfl, by rw [bl_append, HX.out, List.replicate_succ']; rfl⟩, by simp [intOf]; omega⟩
    · have hge : ¬ (m : Int) ≤ j := by omega
      have hX1 : 1 ≤ X.size := by have := HXS.out; omega
      have HSL : Hid (bl X = List.replicate X.size 47) := by rw [HXS.out]; exact HX.out
      clear HX HXS hlt
      go_wp2
      clear hge hm
      go_loopw [5, 6, 9] (fun v s i wr => ∃ (k : Nat) (T : ByteArray) (done : List (List UInt8)), k ≤ len ∧ k ≤ 12 ∧ i = .int .i64 k ∧ s = .string T ∧ bl T = joinL X.size done ∧ (∀ q ∈ done, good q) ∧ done.length ≤ k ∧ T.size ≤ 36 * k ∧ SOwn w.heap.size wr v (done.map tx) ∧ Below w.heap.size w wr) (fun _ _ i _ => 12 - (intOf i).toNat)
      case atStart => exact ⟨0, ⟨#[]⟩, [], Nat.zero_le _, by omega, rfl, rfl, rfl, by simp, by simp, by decide, SOwn.nil _ _, Below.refl _ _⟩
      case round =>
        obtain ⟨k, T, done, hk, hk12, rfl, rfl, hT, hgd, hdl, hTs, how, hbk⟩ := hrel
        have HT := hide hT
        have HGD := hide hgd
        have HOW := hide how
        have HBK := hide hbk
        have hT2 : T.size ≤ 432 := by omega
        clear hT hgd how hbk
        by_cases hlt : k < len ∧ k < 12
        · obtain ⟨hk1, hk2⟩ := hlt
          have hk1' : (k : Int) < len := by omega
          have hk2' : (k : Int) < 12 := by omega
          have hkx : k < ls.length := by rw [HN.out]; exact hk1
          obtain ⟨b, o, _, hix, hce⟩ := HL.out.idx k hkx
          have hxs := HL.out.small _ (show ls.getD k ByteArray.empty ∈ ls from by rw [show ls.getD k ByteArray.empty = ls[k] from by simp [List.getD, List.getElem?_eq_getElem hkx]]; exact List.getElem_mem hkx)
          generalize ls.getD k ByteArray.empty = x at *
          have hce2 := kl_cell HBK.out hce
          have hri := fun w => Right_any w x hxs
          have hq := Lib.toList_data x
          have HCE := hide hce
          unfold maxLen at hxs
          clear hce
          by_cases hg : good (bl x)
          · have hgx := good_no hg
            have hx32 : x.size ≤ 32 := by rw [← bl_length]; exact hgx.2.2
            have hgd2 : Hid (∀ q ∈ done ++ [bl x], good q) := fun q hq => (List.mem_append.1 hq).elim (HGD.out q) (fun h => by rw [List.mem_singleton.1 h]; exact hg)
            clear hgx
            cases hrt : rightN (bl x) with
            | true =>
              rw [hrt] at hri
              clear hq hrt hg
              go_wp2_with fail
              refine (hri _).mono ?_
              rintro e w9 ⟨rfl, hb9⟩
              have hB9 := HBK.out.trans (hb9.mono HBK.out.size)
              have hce := HCE.out
              have hce9 := kl_cell hB9 hce
              have HNEW := hide (strs_new w9 [x] #[.string x] 1 rfl rfl (by unfold maxLen; omega) (fun y hy => by simp at hy; subst hy; unfold maxLen; omega))
              have HOW2 := hide ((HOW.out.kept hb9).alloc (.cells #[.string x] 9))
              have HB2 := hide (hB9.alloc hB9.size (.cells #[.string x] 9))
              clear hb9 hB9
              go_wp2_with (at_builtin; refine wpList_append_texts rfl _ _ rfl w.heap.size u5 _ (done.map tx) [x] rfl HOW2.out rfl HNEW.out (by simp; omega) HB2.out.size ?_)
              intro v2 w2 hown2 hg2
              have hb2 : Below w.heap.size w w2 := HOW2.out.grown_below HB2.out hg2 (Nat.le_refl _) HB2.out.size
              rw [tx_snoc] at hown2
              have hce3 := kl_cell hb2 hce
              clear hce2 hce9 hce
              go_wp2
              exact ⟨⟨k + 1, _, done ++ [bl x], by omega, by omega, by go_num, rfl, by rw [bl_append, bl_append, HT.out, HSL.out, joinL_snoc], hgd2.out, by simp; omega, by rw [ByteArray.size_append, ByteArray.size_append]; omega, hown2, hb2⟩, by simp [intOf]; omega⟩
            | false =>
              rw [hrt] at hri
              have q3 : x.toList = [46, 46] := by
                rcases hg with h | h
                · exact hq.trans h
                · rw [hrt] at h; cases h
              clear hq hrt hg
              go_wp2_with fail
              refine (hri _).mono ?_
              rintro e w9 ⟨rfl, hb9⟩
              have hB9 := HBK.out.trans (hb9.mono HBK.out.size)
              have hce := HCE.out
              have hce9 := kl_cell hB9 hce
              have HNEW := hide (strs_new w9 [x] #[.string x] 1 rfl rfl (by unfold maxLen; omega) (fun y hy => by simp at hy; subst hy; unfold maxLen; omega))
              have HOW2 := hide ((HOW.out.kept hb9).alloc (.cells #[.string x] 9))
              have HB2 := hide (hB9.alloc hB9.size (.cells #[.string x] 9))
              clear hb9 hB9
              go_wp2_with (at_builtin; refine wpList_append_texts rfl _ _ rfl w.heap.size u5 _ (done.map tx) [x] rfl HOW2.out rfl HNEW.out (by simp; omega) HB2.out.size ?_)
              intro v2 w2 hown2 hg2
              have hb2 : Below w.heap.size w w2 := HOW2.out.grown_below HB2.out hg2 (Nat.le_refl _) HB2.out.size
              rw [tx_snoc] at hown2
              have hce3 := kl_cell hb2 hce
              clear hce2 hce9 hce
              go_wp2
              exact ⟨⟨k + 1, _, done ++ [bl x], by omega, by omega, by go_num, rfl, by rw [bl_append, bl_append, HT.out, HSL.out, joinL_snoc], hgd2.out, by simp; omega, by rw [ByteArray.size_append, ByteArray.size_append]; omega, hown2, hb2⟩, by simp [intOf]; omega⟩
          · have q3 : (x.toList == [46, 46]) = false := beq_eq_false_iff_ne.2 (fun e => hg (.inl (hq.symm.trans e)))
            have hrt : rightN (bl x) = false := by
              cases h : rightN (bl x) with
              | true => exact absurd (.inr h) hg
              | false => rfl
            rw [hrt] at hri
            clear hq hg hrt
            go_wp2_with fail
            refine (hri _).mono ?_
            rintro e w9 ⟨rfl, hb9⟩
            have hB9 := HBK.out.trans (hb9.mono HBK.out.size)
            have hce9 := kl_cell hB9 HCE.out
            have hown9 := HOW.out.kept hb9
            go_wp2
            exact ⟨⟨k + 1, T, done, by omega, by omega, by go_num, rfl, HT.out, HGD.out, by omega, by omega, hown9, hB9⟩, by simp [intOf]; omega⟩
        · have HNE := hide (Lib.toList_data T)
          have hjoin := fun h0 h1 => join_all (m := X.size) hX1 HGD.out h0 h1
          rw [← HT.out, bl_length] at hjoin
          have HJ := hide hjoin
          have HW := hide HOW.out.row
          clear hjoin
          refine (Classical.em (k < len)).elim (fun h => ?k1) (fun h => ?k2)
          case' k1 =>
            have h1 : (k : Int) < len := by omega
            have h2 : ¬ (k : Int) < 12 := by omega
            clear hlt
            go_upto_region 13 with fail
          case' k2 =>
            have h1 : ¬ (k : Int) < len := by omega
            clear hlt
            go_upto_region 13 with fail
          all_goals
            clear h
            by_cases c1 : bl T = []
            · have q1 : T.toList = [] := HNE.out.trans c1
              clear c1
              go_wp2_with fail
              refine (awake10_any _).mono ?_
              rintro e w5 ⟨rfl, hb5⟩
              have HB5 := hide (HBK.out.trans (hb5.mono HBK.out.size))
              clear hb5
              go_wp2
              go_ret
              exact ⟨rfl, HB5.out⟩
            have q1 : T.toList.isEmpty = false := by
              rw [HNE.out]
              cases h : T.data.toList with
              | nil => exact absurd h c1
              | cons _ _ => rfl
            by_cases c2 : (400 : Int) < T.size
            · clear c1
              go_wp2_with fail
              refine (awake10_any _).mono ?_
              rintro e w5 ⟨rfl, hb5⟩
              have HB5 := hide (HBK.out.trans (hb5.mono HBK.out.size))
              clear hb5
              go_wp2
              go_ret
              exact ⟨rfl, HB5.out⟩
            have hj4 := HJ.out c1 (by omega)
            obtain ⟨j1, j2, j3, j4⟩ := hj4
            have g1 := fun w => Split_any w T (by unfold maxLen; omega)
            rw [j1] at g1
            have g2 := fun w => Parts_any w (T.extract X.size T.size) (by unfold maxLen; rw [ByteArray.size_extract]; omega)
            rw [bl_extract, List.take_of_length_le (by rw [bl_length]; exact Nat.le_refl _), j2] at g2
            have g3 := fun w => Split_any w (T ++ ⟨#[47, 46, 47]⟩) (by unfold maxLen; rw [ByteArray.size_append]; show T.size + 3 ≤ _; omega)
            rw [bl_append, show bl ⟨#[47, 46, 47]⟩ = [47, 46, 47] from rfl] at g3
            generalize splitS (bl T ++ [47, 46, 47]) = r3 at *
            obtain ⟨n3, e3⟩ := r3
            have j3' : (X.size : Int) ≤ T.size := by omega
            have G1 := hide g1
            have G2 := hide g2
            have G3 := hide g3
            have J4 := hide j4
            clear g1 g2 g3 j1 j2 j3 j4 c1
            go_wp2_with fail
            refine (G1.out _).mono ?_
            rintro e w1 ⟨v1, rfl, hv1, hb1⟩
            have HV1 := hide hv1
            have HW1 := hide (HW.out.below hb1)
            have HB1 := hide (HBK.out.trans (hb1.mono HBK.out.size))
            clear hv1 hb1 G1
            go_wp2_with fail
            refine (G2.out _).mono ?_
            rintro e w2 ⟨v2, rfl, hv2, hb2⟩
            have HV1' := hide (HV1.out.below hb2)
            have HW2 := hide (HW1.out.below hb2)
            have HV2 := hide hv2
            have HB2 := hide (kl_step hb2 HB1.out)
            clear hv2 hb2 G2 HV1 HW1 HB1
            go_wp2_with fail
            refine (G3.out _).mono ?_
            rintro e w3 ⟨v3, rfl, hv3, hb3⟩
            go_wp2_with fail
            refine (awake10_any _).mono ?_
            rintro e w4 ⟨rfl, hb4⟩
            have hb := kl_step hb4 hb3
            have HV1 := hide (HV1'.out.below hb)
            have HW1 := hide (HW2.out.below hb)
            have HV2' := hide (HV2.out.below hb)
            have HV3 := hide (hv3.below hb4)
            have HB1 := hide (kl_step hb HB2.out)
            clear hv3 hb3 hb4 hb G3 HV1' HW2 HV2 HB2
            go_wp2_with fail
            refine (PlainS_any _ v1 u5 _ _ HV1.out HW1.out).mono ?_
            rintro e w5 ⟨rfl, hb5⟩
            rw [decide_eq_true rfl]
            have HW2 := hide (HW1.out.below hb5)
            have HV2 := hide (HV2'.out.below hb5)
            have HV3' := hide (HV3.out.below hb5)
            have HB2 := hide (kl_step hb5 HB1.out)
            clear hb5 HV1 HW1 HV2' HV3 HB1
            go_wp2_with fail
            refine (PlainS_any _ v2 u5 _ _ HV2.out HW2.out).mono ?_
            rintro e w6 ⟨rfl, hb6⟩
            rw [decide_eq_true rfl]
            have HW1 := hide (HW2.out.below hb6)
            have HV3 := hide (HV3'.out.below hb6)
            have HB1 := hide (kl_step hb6 HB2.out)
            clear hb6 HW2 HV2 HV3' HB2
            by_cases c3 : T.size ≤ 397
            · have hj := J4.out c3
              simp only [Prod.mk.injEq] at hj
              obtain ⟨rfl, rfl⟩ := hj
              have d3 : decide ((400 : Int) < T.size + 3) = false := decide_eq_false (by omega)
              go_wp2_with fail
              refine (PlainS_any _ v3 u5 _ _ HV3.out HW1.out).mono ?_
              rintro e w7 ⟨rfl, hb7⟩
              rw [decide_eq_true rfl]
              have HB3 := hide (kl_step hb7 HB1.out)
              clear hb7
              go_wp2
              go_ret
              exact ⟨rfl, HB3.out⟩
            · have d3 : decide ((400 : Int) < T.size + 3) = true := decide_eq_true (by omega)
              go_wp2
              go_ret
              exact ⟨rfl, HB1.out⟩
end Go.Proofs.YtoffgmkkkdklpaaDoor
