/-
  The document's Parts and Split.
-/
import Derived.Test.YtoffgmkkkdklpaaDoorNameC
import Derived.Deep.CutRange
namespace Go.Proofs.YtoffgmkkkdklpaaDoor
open Go.RowKit
set_option linter.unusedVariables false
set_option maxRecDepth 100000

/-- A piece that ends at a slash, or at the end. -/
theorem walk_piece {l : List UInt8} {f k : Nat} (hfk : f ≤ k) (hk : k ≤ l.length) (hno : (47 : UInt8) ∉ (l.drop f).take (k - f)) (hat : k = l.length ∨ l[k]? = some 47) :
    walkS (cutL (l.drop f)) = walkS (((l.take k).drop f) :: cutL (l.drop (k + 1))) := by
  have e1 : (l.take k).drop f = (l.drop f).take (k - f) := by rw [List.drop_take]
  rw [e1]
  rcases hat with rfl | hat
  · have e2 : (l.drop f).take (l.length - f) = l.drop f := List.take_of_length_le (by simp)
    rw [e2] at hno ⊢
    rw [cutL_one hno, List.drop_of_length_le (show l.length ≤ l.length + 1 by omega), show cutL [] = [[]] from rfl]
    by_cases h0 : l.drop f = [] ∨ l.drop f = [46]
    · rw [walkS_skip h0, walkS_skip h0, walkS_skip (.inl rfl)]
    · by_cases h1 : l.drop f = [46, 46] ∨ rightN (l.drop f) = true
      · rw [walkS_take h1, walkS_take h1, walkS_skip (.inl rfl)]
      · rw [walkS_bad h0 h1, walkS_bad h0 h1]
  · have hlt : k < l.length := (List.getElem?_eq_some_iff.1 hat).1
    have e2 : l.drop f = (l.drop f).take (k - f) ++ 47 :: l.drop (k + 1) := by
      conv => lhs; rw [← List.take_append_drop (k - f) (l.drop f)]
      congr 1
      rw [List.drop_drop, show f + (k - f) = k from by omega, List.drop_eq_getElem_cons hlt]
      congr 1
      rw [List.getElem?_eq_getElem hlt] at hat
      exact Option.some.inj hat
    conv => lhs; rw [e2, cutL_more, cutL_one hno]
    rfl
theorem no_more {l : List UInt8} {f k : Nat} (hfk : f ≤ k) (hk : k < l.length) (hno : (47 : UInt8) ∉ (l.drop f).take (k - f)) (hat : l[k] ≠ 47) : (47 : UInt8) ∉ (l.drop f).take (k + 1 - f) := by
  rw [show k + 1 - f = (k - f) + 1 from by omega, List.take_succ_eq_append_getElem (by simp; omega)]
  intro h
  rcases List.mem_append.1 h with h | h
  · exact hno h
  · simp only [List.mem_singleton, List.getElem_drop] at h
    apply hat
    rw [h]
    congr 1
    omega

set_option maxHeartbeats 8000000 in
theorem RParts_any (w : World) (s : ByteArray) (hs : s.size ≤ maxLen) : Calls Tryd.prog 12 #[.string s] w (SaysP (partsS (bl s)) w) := by
  unfold maxLen at hs
  by_cases hl : 1 ≤ (bl s).length ∧ (bl s).length ≤ 400
  · obtain ⟨hl1, hl2⟩ : 1 ≤ (s.size : Int) ∧ (s.size : Int) ≤ 400 := by rw [bl_length] at hl; omega
    have HL := hide hl
    clear hl hs
    go_enter Tryd.func12, Tryd.ntmps12
    go_wp2
    go_loopw [5, 6, 7] (fun v ff i wr => ∃ (k f : Nat) (done : List (List UInt8)), k ≤ s.size + 1 ∧ f ≤ k ∧ (k = s.size + 1 → f = s.size + 1) ∧ i = .int .i64 k ∧ ff = .int .i64 f ∧ walkS (cutL (bl s)) = (walkS (cutL ((bl s).drop f))).map (done ++ ·) ∧ (47 : UInt8) ∉ ((bl s).drop f).take (k - f) ∧ done.length ≤ k ∧ SOwn w.heap.size wr v (done.map tx) ∧ Below w.heap.size w wr) (fun _ _ i _ => s.size + 1 - (intOf i).toNat)
    case atStart => exact ⟨0, 0, [], by omega, Nat.le_refl _, by omega, rfl, rfl, by rw [List.drop_zero]; cases walkS (cutL (bl s)) <;> simp, by simp, Nat.le_refl _, SOwn.nil _ _, Below.refl _ _⟩
    case round =>
      obtain ⟨k, f, done, hk, hfk, hkf, rfl, rfl, hwk, hno, hdk, how, hbk⟩ := hrel
      have HNO := hide hno
      have HWK := hide hwk
      have HOW := hide how
      have HBK := hide hbk
      clear hno hwk how hbk
      by_cases hlt : k ≤ s.size
      · have hlt' : (k : Int) ≤ s.size := by omega
        clear hkf
        by_cases hcont : ∃ h : k < s.size, s[k] ≠ 47
        · obtain ⟨hks, hne⟩ := hcont
          have hks' : (k : Int) < s.size := by omega
          have hb : ((s[k].toNat : Int) != 47) = true := by
            rw [bne_iff_ne]
            intro e
            exact hne (by rw [← UInt8.toNat_inj]; show s[k].toNat = 47; omega)
          have hn1 : Hid ((47 : UInt8) ∉ ((bl s).drop f).take (k + 1 - f)) := no_more hfk (by rw [bl_length]; exact hks) HNO.out hne
          clear hne
          go_wp2
          exact ⟨⟨k + 1, f, done, by omega, by omega, by omega, by go_num, rfl, HWK.out, hn1.out, by omega, HOW.out, HBK.out⟩, by simp [intOf]; omega⟩
        · have hpc := walk_piece (l := bl s) hfk (by rw [bl_length]; exact hlt) HNO.out (by
            rw [bl_length]
            by_cases hks : k < s.size
            · right
              rw [List.getElem?_eq_getElem (by rw [bl_length]; exact hks)]
              have : s[k] = 47 := Classical.byContradiction fun h => hcont ⟨hks, h⟩
              exact congrArg some this
            · left; omega)
          rw [← bl_extract s f k] at hpc
          have hw := HWK.out
          rw [hpc] at hw
          have HW := hide hw
          have hps : (s.extract f k).size ≤ 400 := by rw [ByteArray.size_extract]; omega
          have hcase : (∃ h : k < s.size, (s[k].toNat : Int) = 47) ∨ k = s.size := by
            by_cases hks : k < s.size
            · have : s[k] = 47 := Classical.byContradiction fun h => hcont ⟨hks, h⟩
              exact .inl ⟨hks, by rw [this]; rfl⟩
            · exact .inr (by omega)
          have hfk' : (f : Int) ≤ k := by omega
          clear hcont hpc hw
          have hcase' : (∃ h : k < s.size, (s[k].toNat : Int) = 47) ∨ ¬ (k : Int) < s.size := hcase.imp_right (fun h => by omega)
          clear hcase
          refine hcase'.elim (fun h => ?k1) (fun hks => ?k2)
          case' k1 =>
            obtain ⟨hks, hsl⟩ := h
            have hks' : (k : Int) < s.size := by omega
            go_upto_region 11 with fail
          case' k2 => go_upto_region 11 with fail
          all_goals
            generalize s.extract f k = p at *
            have hq := Lib.toList_data p
            by_cases c1 : bl p = []
            · have q1 : p.toList = [] := hq.trans c1
              have hn1 : Hid (walkS (cutL (bl s)) = (walkS (cutL ((bl s).drop (k + 1)))).map (done ++ ·)) := by have := HW.out; rwa [walkS_skip (.inl c1)] at this
              clear hq c1
              go_wp2
              exact ⟨⟨k + 1, k + 1, done, by omega, by omega, by omega, by go_num, rfl, hn1.out, by simp, by omega, HOW.out, HBK.out⟩, by simp [intOf]; omega⟩
            have q1 : p.toList.isEmpty = false := by
              rw [hq]
              cases h : p.data.toList with
              | nil => exact absurd h c1
              | cons _ _ => rfl
            by_cases c2 : bl p = [46]
            · have q2 : p.toList = [46] := hq.trans c2
              have hn1 : Hid (walkS (cutL (bl s)) = (walkS (cutL ((bl s).drop (k + 1)))).map (done ++ ·)) := by have := HW.out; rwa [walkS_skip (.inr c2)] at this
              clear hq c1 c2 q1
              go_wp2
              exact ⟨⟨k + 1, k + 1, done, by omega, by omega, by omega, by go_num, rfl, hn1.out, by simp, by omega, HOW.out, HBK.out⟩, by simp [intOf]; omega⟩
            have q2 : (p.toList == [46]) = false := beq_eq_false_iff_ne.2 (fun e => c2 (hq.symm.trans e))
            have HNEW := hide (strs_new wr [p] #[.string p] 1 rfl rfl (by unfold maxLen; omega) (fun x hx => by simp at hx; subst hx; unfold maxLen; omega))
            have HOW2 := hide (HOW.out.alloc (.cells #[.string p] 9))
            have HB2 := hide (HBK.out.alloc HBK.out.size (.cells #[.string p] 9))
            by_cases c3 : bl p = [46, 46]
            · have q3 : p.toList = [46, 46] := hq.trans c3
              have hn1 : Hid (walkS (cutL (bl s)) = (walkS (cutL ((bl s).drop (k + 1)))).map ((done ++ [bl p]) ++ ·)) := walk_step HW.out (walkS_take (.inl c3) _)
              clear hq c1 c2 c3
              go_wp2_with (at_builtin; refine wpList_append_texts rfl _ _ rfl w.heap.size u5 _ (done.map tx) [p] rfl HOW2.out rfl HNEW.out (by simp; omega) HB2.out.size ?_)
              intro v2 w2 hown2 hg2
              have hb2 : Below w.heap.size w w2 := HOW2.out.grown_below HB2.out hg2 (Nat.le_refl _) HB2.out.size
              rw [tx_snoc] at hown2
              go_wp2
              exact ⟨⟨k + 1, k + 1, done ++ [bl p], by omega, by omega, by omega, by go_num, rfl, hn1.out, by simp, by simp; omega, hown2, hb2⟩, by simp [intOf]; omega⟩
            have q3 : (p.toList == [46, 46]) = false := beq_eq_false_iff_ne.2 (fun e => c3 (hq.symm.trans e))
            have hri := fun w => RRight_any w p (by unfold maxLen; omega)
            cases hrt : rightN (bl p) with
            | true =>
              rw [hrt] at hri
              have hn1 : Hid (walkS (cutL (bl s)) = (walkS (cutL ((bl s).drop (k + 1)))).map ((done ++ [bl p]) ++ ·)) := walk_step HW.out (walkS_take (.inr hrt) _)
              clear hq c1 c2 c3 hrt
              go_wp2_with (first
                | (go_at_call 14; refine (hri _).mono ?_; rintro e w9 ⟨rfl, rfl⟩)
                | (at_builtin; refine wpList_append_texts rfl _ _ rfl w.heap.size u5 _ (done.map tx) [p] rfl HOW2.out rfl HNEW.out (by simp; omega) HB2.out.size ?_))
              intro v2 w2 hown2 hg2
              have hb2 : Below w.heap.size w w2 := HOW2.out.grown_below HB2.out hg2 (Nat.le_refl _) HB2.out.size
              rw [tx_snoc] at hown2
              go_wp2
              exact ⟨⟨k + 1, k + 1, done ++ [bl p], by omega, by omega, by omega, by go_num, rfl, hn1.out, by simp, by simp; omega, hown2, hb2⟩, by simp [intOf]; omega⟩
            | false =>
              rw [hrt] at hri
              have hn1 : Hid (partsS (bl s) = ([], false, 17)) := partsS_none (by rw [HW.out, walkS_bad (not_or.2 ⟨c1, c2⟩) (not_or.2 ⟨c3, by rw [hrt]; exact Bool.false_ne_true⟩)]; rfl)
              clear hq c1 c2 c3 hrt
              go_wp2_with (go_at_call 14; refine (hri _).mono ?_; rintro e w9 ⟨rfl, rfl⟩)
              go_ret3
              rw [hn1.out]
              exact ⟨_, rfl, SRow.nil _, HBK.out⟩
      · obtain rfl : k = s.size + 1 := by omega
        obtain rfl := hkf rfl
        have hwk := HWK.out
        rw [List.drop_of_length_le (by rw [bl_length]; omega)] at hwk
        have hps : Hid (partsS (bl s) = (done, decide ((bl s).head? = some 47), 0)) := partsS_some HL.out.1 HL.out.2 (by rw [hwk]; simp [cutL, walkS])
        have h0 : 0 < s.size := by omega
        have hh := head_slash h0
        generalize decide ((bl s).head? = some 47) = top at *
        have HR := hide HOW.out.row
        clear hwk
        have hnl : ¬ ((s.size : Int) + 1 ≤ s.size) := by omega
        go_wp2_with fail
        go_quiet (fail)
        go_wp2
        go_ret3
        rw [hps.out]
        have hd := below_drewN wr nq
        exact ⟨_, rfl, HR.out.below hd, HBK.out.trans (hd.mono HBK.out.size)⟩
  · rw [partsS_long hl]
    rw [bl_length] at hl
    by_cases h1 : (s.size : Int) < 1
    · clear hl
      go_enter Tryd.func12, Tryd.ntmps12
      go_wp2
      go_ret3
      exact ⟨_, rfl, SRow.nil _, Below.refl _ _⟩
    · have h2 : (400 : Int) < s.size := by omega
      clear hl
      go_enter Tryd.func12, Tryd.ntmps12
      go_wp2
      go_ret3
      exact ⟨_, rfl, SRow.nil _, Below.refl _ _⟩
end Go.Proofs.YtoffgmkkkdklpaaDoor
