/-
  The document's own Scan: what it finds is what the program finds.
-/
import Derived.Test.YtgkgbbffgcmekaaRefFrame
import Derived.Test.YtgkgbbffgcmekaaHelp
namespace Go.Proofs.Ytgkgbbffgcmekaa
open Go.RowKit
set_option linter.unusedVariables false
set_option maxRecDepth 100000

theorem saidN_num {ys : List Int} (hb : Bys ys) (h2 : 2 ≤ ys.length) : num (ys.take 2) = (saidN ys : Int) := by
  match ys, h2 with
  | a :: b :: t, _ =>
    have ha := hb a (by simp)
    have hb' := hb b (by simp)
    simp [num, saidN, List.getD]
    omega
theorem lenB_take {ys : List Int} (hb : Bys ys) (h2 : 2 ≤ ys.length) {x : List Int} (hx : x.length = saidN ys) : lenB x = ys.take 2 := by
  unfold lenB
  rw [hx, ← saidN_num hb h2]
  have := low_num (hb.take 2)
  rwa [show (ys.take 2).length = 2 from by simp; omega] at this
theorem body_iff {ys : List Int} (hb : Bys ys) {N : Nat} (hN : saidN ys = N) (h7 : N + 7 ≤ ys.length) : bodyB ((ys.drop 6).take N) = ys.take (6 + N) ↔ fsum ((ys.drop 6).take N) = num ((ys.drop 2).take 4) := by
  have hxl : ((ys.drop 6).take N).length = saidN ys := by rw [hN]; simp; omega
  have e : ys.take (6 + N) = ys.take 2 ++ (ys.drop 2).take 4 ++ (ys.drop 6).take N := by
    rw [List.take_add, show (6 : Nat) = 2 + 4 from rfl, List.take_add]
  have hm : ((ys.drop 2).take 4).length = 4 := by simp; omega
  have hr := fsum_range ((ys.drop 6).take N)
  unfold bodyB
  rw [lenB_take hb (by omega) hxl, e]
  generalize (ys.drop 6).take N = x at *
  generalize hM : (ys.drop 2).take 4 = m at *
  have hbm : Bys m := by rw [← hM]; exact (hb.drop 2).take 4
  constructor
  · intro h
    have h1 := List.append_cancel_right h
    have h2 := List.append_cancel_left h1
    rw [← h2, num_low, Int.emod_eq_of_lt hr.1 (by simpa using hr.2)]
  · intro h
    rw [h]
    have := low_num hbm
    rw [hm] at this
    rw [this]
theorem firstS_ref {ys : List Int} (hb : Bys ys) {N : Nat} (hN : saidN ys = N) (hbig : N ≤ 65000) (h7 : N + 7 ≤ ys.length) (hf : ys.getD (N + 6) 0 = 0) :
    firstS ys = if bodyB ((ys.drop 6).take N) = ys.take (6 + N) then some ((ys.drop 6).take N) else none := by
  unfold firstS
  rw [if_neg (by omega), hN, if_neg (by rw [hf]; omega)]
  by_cases h : fsum ((ys.drop 6).take N) = num ((ys.drop 2).take 4)
  · rw [if_pos h, if_pos ((body_iff hb hN h7).2 h)]
  · rw [if_neg h, if_neg (fun k => h ((body_iff hb hN h7).1 k))]
theorem firstS_no {ys : List Int} {N : Nat} (hN : saidN ys = N) (h : 65000 < N ∨ ys.length < N + 7 ∨ ys.getD (N + 6) 0 ≠ 0) : firstS ys = none := by
  unfold firstS
  split
  · rfl
  · rw [hN, if_pos h]
set_option maxHeartbeats 4000000 in
theorem RScan_any (w : World) (v : Value) (xs : List Int) (h : Row w v xs) (hn : xs.length ≤ 1000000000) :
    Calls Try.prog 20 #[v] w (Scanned w xs) := by
  have HR := hide h
  have hlen := h.lenRun
  have hxb := h.bys
  clear h
  have HN := hide hn
  go_enter Try.func20, Try.ntmps20
  go_wp2
  go_loopw [5, 6] (fun l i wr => ∃ (us : List Value) (bss : List (List Int)) (n : Nat), i = .int .i64 n ∧ VOwn w.heap.size wr l us ∧ Owns w.heap.size wr us bss ∧ Seen xs bss n ∧ Below w.heap.size w wr) (fun _ i _ => xs.length - (intOf i).toNat)
  case atStart => exact ⟨[], [], 0, rfl, VOwn.nil _ _, Owns.nil _ _, .none, Below.refl _ _⟩
  case round =>
    obtain ⟨us, bss, n, rfl, hv, ho, hs, hb⟩ := hrel
    have hle := hs.le
    have hr := HR.out.below hb
    obtain ⟨v', hsl, hr'⟩ := hr.from n hle.1
    have HS := hide hs
    have HO := hide ho
    have HV := hide hv
    have HR' := hide hr'
    have HRR := hide hr
    have hG := refGet_any wr v xs n 2 hr (wf_i64 (by omega) (by omega)) (by decide)
    have hby : Bys (xs.drop n) := hxb.drop n
    clear hs ho hv hr' hr
    by_cases h2 : xs.length < n + 2
    · rw [show getS xs n 2 = (0, 3) from by unfold getS; rw [if_neg (by omega), if_pos (by omega)]] at hG
      have HF := hide (show firstS (xs.drop n) = none from firstS_short (by simp; omega))
      go_wp2_with fail
      refine hG.mono ?_
      rintro e w1 ⟨rfl, rfl⟩
      go_wp2_with fail
      refine (Rerased_any _ v' _ HR'.out).mono ?_
      rintro e w2 ⟨rfl, rfl⟩
      go_wp2
      go_ret3
      exact ⟨_, us, bss, n, rfl, HV.out, HO.out, ⟨HS.out, HF.out⟩, hb⟩
    · have hln : (xs.drop n).length = xs.length - n := by simp
      obtain ⟨N, hN⟩ : ∃ N : Nat, saidN (xs.drop n) = N := ⟨_, rfl⟩
      have hgs : getS xs n 2 = ((N : Int), 0) := by
        unfold getS
        rw [if_neg (by omega), if_neg (by omega), ← hN, ← saidN_num hby (by omega)]
        rfl
      rw [hgs] at hG
      have hNb : N < 70000 := by
        have h1 := hby.at 0
        have h2 := hby.at 1
        unfold saidN at hN
        omega
      have HG := hide hG
      have HNN := hide hN
      have HNB := hide hNb
      have hNb' : (N : Int) < 70000 := by omega
      clear hG hgs hN
      by_cases hbig : 65000 < N
      · have HF := hide (firstS_no HNN.out (.inl hbig))
        have hbig' : (65000 : Int) < N := by omega
        go_wp2_with fail
        refine Calls.mono HG.out ?_
        rintro e w1 ⟨rfl, rfl⟩
        go_wp2_with fail
        refine (Rerased_any _ v' _ HR'.out).mono ?_
        rintro e w2 ⟨rfl, rfl⟩
        go_wp2
        go_ret3
        exact ⟨_, us, bss, n, rfl, HV.out, HO.out, ⟨HS.out, HF.out⟩, hb⟩
      · have hbig' : (N : Int) ≤ 65000 := by omega
        by_cases h7 : xs.length - n < N + 7
        · have HF := hide (firstS_no HNN.out (.inr (.inl (by rw [hln]; exact h7))))
          have h7' : (xs.length : Int) - n < N + 7 := by omega
          go_wp2_with fail
          refine Calls.mono HG.out ?_
          rintro e w1 ⟨rfl, rfl⟩
          go_wp2_with fail
          refine (Rerased_any _ v' _ HR'.out).mono ?_
          rintro e w2 ⟨rfl, rfl⟩
          go_wp2
          go_ret3
          exact ⟨_, us, bss, n, rfl, HV.out, HO.out, ⟨HS.out, HF.out⟩, hb⟩
        · have h7' : (N : Int) + 7 ≤ xs.length - n := by omega
          obtain ⟨p, hix, hcp⟩ := HRR.out.idx (n + N + 6) (by omega)
          have ef : xs.getD (n + N + 6) 0 = (xs.drop n).getD (N + 6) 0 := by simp [List.getD, Nat.add_assoc]
          rw [ef] at hcp
          rw [show ((n + N + 6 : Nat) : Int) = (n : Int) + N + 6 from by omega] at hix
          by_cases hf : (xs.drop n).getD (N + 6) 0 = 0
          · have HF := hide (firstS_ref hby HNN.out (by omega) (by omega) hf)
            rw [hf] at hcp
            obtain ⟨xv, hsx, hrx⟩ := HRR.out.btw (n + 6) (n + 6 + N) (by omega) (by omega)
            obtain ⟨yv, hsy, hry⟩ := HRR.out.btw n (n + 6 + N) (by omega) (by omega)
            rw [show n + 6 + N - (n + 6) = N from by omega, ← List.drop_drop] at hrx
            rw [show n + 6 + N - n = 6 + N from by omega] at hry
            rw [show ((n + 6 : Nat) : Int) = (n : Int) + 6 from by omega, show ((n + 6 + N : Nat) : Int) = (n : Int) + 6 + N from by omega] at hsx
            rw [show ((n + 6 + N : Nat) : Int) = (n : Int) + 6 + N from by omega] at hsy
            have hxl : (((xs.drop n).drop 6).take N).length = N := by simp; omega
            generalize ((xs.drop n).drop 6).take N = x at *
            generalize (xs.drop n).take (6 + N) = y at *
            have hBS : bodyS x = (bodyB x, 0) := by unfold bodyS; rw [if_neg (by omega)]
            have HBS := hide hBS
            have HXL := hide hxl
            have HRX := hide hrx
            have HRY := hide hry
            have hybys := hry.bys
            have hxbys := bodyB_bys hrx.bys
            clear hBS hxl hrx hry ef hf HRR hNb' HNB hNb
            by_cases he : bodyB x = y
            · rw [if_pos he] at HF
              subst he
              go_wp2_with fail
              refine Calls.mono HG.out ?_
              rintro e w1 ⟨rfl, rfl⟩
              go_wp2_with (at_builtin; refine wpList_append_row rfl _ _ rfl w.heap.size _ _ [] x rfl (Own.nil _ _) rfl HRX.out (by rw [HXL.out]; simp; omega) hb.size ?_)
              intro u1 w2 ho1 hg1
              have hB2 : Below w.heap.size w w2 := (Own.nil w.heap.size w1).grown_below hb hg1 (Nat.le_refl _) hb.size
              have hg12 : Below w1.heap.size w1 w2 := grown_below hg1
              try rw [List.nil_append] at ho1
              have HO1 := hide ho1
              have HV2 := hide (HV.out.kept hg12)
              have HOO2 := hide (HO.out.kept hg12)
              clear ho1 hg1 HV HO HRX hix hcp hsx
              go_wp2_with fail
              refine (RBody_any w2 u1 x HO1.out.row).mono ?_
              rintro e w3 ⟨u2, rfl, ho2, hb3⟩
              rw [HBS.out] at ho2 ⊢
              have hB3 : Below w.heap.size w w3 := hB2.trans (hb3.mono hB2.size)
              have HO13 := hide (HO1.out.kept hb3)
              have HV3 := hide (HV2.out.kept hb3)
              have HOO3 := hide (HOO2.out.kept hb3)
              have ht1 := ho2.row.text
              have ht2 := ((HRY.out.below hg12).below hb3).text
              have ht1d := (ho2.row.below (Below.refl _ _).drew).text
              have ht2d := (((HRY.out.below hg12).below hb3).below (Below.refl _ _).drew).text
              have HRR3 := hide ((HR'.out.below hg12).below hb3)
              have HO2 := hide ho2
              clear ho2 hb3 hg12 HO1 HV2 HOO2 HR' HRY
              go_wp2_with fail
              go_region
              all_goals
                have hD : Below w3.heap.size w3 w3.drew := (Below.refl _ _).drew
                have HV4 := hide (HV3.out.kept hD)
                have HO4 := hide (HOO3.out.kept hD)
                have HU4 := hide (HO13.out.kept hD)
                have hB4 : Below w.heap.size w w3.drew := hB3.drew
                obtain ⟨ua, uc, rfl⟩ := HU4.out.row.of_len
                generalize w3.drew = w4 at *
                have hB5 : Below w.heap.size w (w4.alloc (.cells #[.slice ua x.length uc] 38)) := hB4.alloc hB4.size _
                have hul2 : us.length + 1 ≤ 1000000000000 := by rw [HO4.out.1]; have := HN.out; omega
                clear ht1 ht2 ht1d ht2d HV3 HOO3 HO13 hB3 hD HO2 HRR3
                go_wp2_with (at_builtin; refine wpList_append_vals rfl _ _ rfl w.heap.size _ _ us [.slice ua x.length uc] rfl (HV4.out.alloc _) rfl (vals_new1 w4 _) (by intro u hu; simp at hu; exact ⟨_, _, _, hu⟩) hul2 hB5.size ?_)
                intro v5 w5 hv5 hg5
                have hB6 : Below w.heap.size w w5 := (HV4.out.alloc _).grown_below hB5 hg5 (Nat.le_refl _) hB5.size
                have HO5 := hide (((HO4.out.kept ((Below.refl _ _).alloc (Nat.le_refl _) (.cells #[.slice ua x.length uc] 38))).snoc (HU4.out.kept ((Below.refl _ _).alloc (Nat.le_refl _) (.cells #[.slice ua x.length uc] 38)))).besides (HV4.out.alloc _) hg5)
                have HV5 := hide hv5
                clear hv5 hg5 HO4 HV4 hB5 hB4
                go_wp2
                exact ⟨⟨us ++ [.slice ua x.length uc], bss ++ [x], n + (x.length + 7), by rw [HXL.out]; go_num, HV5.out, HO5.out, HS.out.more HF.out, hB6⟩, by simp [intOf]; omega⟩
            · rw [if_neg he] at HF
              have hne2 : ((strOfNums (bodyB x)).toList == (strOfNums y).toList) = false := by
                have : ¬ (strOfNums (bodyB x)).toList = (strOfNums y).toList := by
                  intro h
                  rw [Lib.strOfNums_toList, Lib.strOfNums_toList] at h
                  exact he (strOfNums_inj hxbys hybys (by unfold strOfNums; congr 1; exact congrArg List.toArray h))
                simpa using this
              go_wp2_with fail
              refine Calls.mono HG.out ?_
              rintro e w1 ⟨rfl, rfl⟩
              go_wp2_with (at_builtin; refine wpList_append_row rfl _ _ rfl w.heap.size _ _ [] x rfl (Own.nil _ _) rfl HRX.out (by rw [HXL.out]; simp; omega) hb.size ?_)
              intro u1 w2 ho1 hg1
              have hB2 : Below w.heap.size w w2 := (Own.nil w.heap.size w1).grown_below hb hg1 (Nat.le_refl _) hb.size
              have hg12 : Below w1.heap.size w1 w2 := grown_below hg1
              try rw [List.nil_append] at ho1
              have HO1 := hide ho1
              have HV2 := hide (HV.out.kept hg12)
              have HOO2 := hide (HO.out.kept hg12)
              clear ho1 hg1 HV HO HRX hix hcp hsx
              go_wp2_with fail
              refine (RBody_any w2 u1 x HO1.out.row).mono ?_
              rintro e w3 ⟨u2, rfl, ho2, hb3⟩
              rw [HBS.out] at ho2 ⊢
              have hB3 : Below w.heap.size w w3 := hB2.trans (hb3.mono hB2.size)
              have HO13 := hide (HO1.out.kept hb3)
              have HV3 := hide (HV2.out.kept hb3)
              have HOO3 := hide (HOO2.out.kept hb3)
              have ht1 := ho2.row.text
              have ht2 := ((HRY.out.below hg12).below hb3).text
              have ht1d := (ho2.row.below (Below.refl _ _).drew).text
              have ht2d := (((HRY.out.below hg12).below hb3).below (Below.refl _ _).drew).text
              have HRR3 := hide ((HR'.out.below hg12).below hb3)
              have HO2 := hide ho2
              clear ho2 hb3 hg12 HO1 HV2 HOO2 HR' HRY
              go_wp2_with fail
              go_region
              all_goals
                have hD : Below w3.heap.size w3 w3.drew := (Below.refl _ _).drew
                have HV4 := hide (HV3.out.kept hD)
                have HO4 := hide (HOO3.out.kept hD)
                have HR4 := hide (HRR3.out.below hD)
                have hB4 : Below w.heap.size w w3.drew := hB3.drew
                generalize w3.drew = w4 at *
                clear ht1 ht2 ht1d ht2d HV3 HOO3 HO13 hB3 hD HO2 HRR3
                go_wp2_with fail
                refine (Rerased_any _ v' _ HR4.out).mono ?_
                rintro e w5 ⟨rfl, rfl⟩
                go_wp2
                go_ret3
                exact ⟨_, us, bss, n, rfl, HV4.out, HO4.out, ⟨HS.out, HF.out⟩, hB4⟩
          · have HF := hide (firstS_no HNN.out (.inr (.inr hf)))
            generalize (xs.drop n).getD (N + 6) 0 = f at *
            have hne : (f != 0) = true := by simpa using hf
            go_wp2_with fail
            refine Calls.mono HG.out ?_
            rintro e w1 ⟨rfl, rfl⟩
            go_wp2_with fail
            refine (Rerased_any _ v' _ HR'.out).mono ?_
            rintro e w2 ⟨rfl, rfl⟩
            go_wp2
            go_ret3
            exact ⟨_, us, bss, n, rfl, HV.out, HO.out, ⟨HS.out, HF.out⟩, hb⟩
end Go.Proofs.Ytgkgbbffgcmekaa
