/-
  The walk of garretlaw07.FrameJoins.
-/
import Derived.Test.YtnaklimfbddaaaaAwake07
import Derived.Test.YtnaklimfbddaaaaSame2
import Derived.Deep.CutBlock
import Derived.Deep.DeepCutAuto
namespace Go.Proofs.Ytnaklimfbddaaaa
open Go.RowKit
set_option linter.unusedVariables false
set_option maxRecDepth 100000

theorem FrameJoins_open0 (w : World) : Opens Try.prog w 28 (fun cs => ∃ v bss, cs = [v] ∧ VRow w v bss) := opens_vrow w
theorem FrameJoins_open1 (w : World) : Opens Try.prog w 28 (fun cs => ∃ v bss, cs = [v] ∧ VRow w v bss) := opens_vrow w

theorem recs_len {bs : List (List Int)} (h : ∀ b ∈ bs, b.length ≤ 150) : (recs bs).length ≤ 157 * bs.length := by
  induction bs with
  | nil => simp [recs]
  | cons b t ih =>
    have h1 := ih (fun c hc => h c (by simp [hc]))
    have h2 := h b (by simp)
    rw [recs_cons, List.length_append, recB_length, List.length_cons]
    omega
theorem firstS_over {ys : List Int} {N : Nat} (hN : saidN ys = N) (h : 65000 < N ∨ ys.length < N + 7 ∨ ys.getD (N + 6) 0 ≠ 0) : firstS ys = none := by
  unfold firstS
  split
  · rfl
  · rw [hN, if_pos h]
theorem take_one_more2 {xs : List (List Int)} {k : Nat} (h : k < xs.length) : xs.take (k + 1) = xs.take k ++ [xs.getD k []] := by
  rw [List.take_succ_eq_append_getElem h]; simp [List.getD, List.getElem?_eq_getElem h]

/-- Bytes written out in a new block. -/
theorem own_lit (w : World) (xs : List Int) (hb : Bys xs) (hl : xs.length ≤ 1000) : Own w.heap.size (w.alloc (.cells (bv xs).toArray 5)) (.slice (some ⟨w.heap.size, 0, none⟩) xs.length xs.length) xs := by
  refine ⟨⟨by rw [bv_length, Nat.mul_one], .inr ⟨w.heap.size, xs.length, (bv xs).toArray, rfl, Nat.le_refl _, Blk.new w _ _, Nat.le_refl _, by unfold maxLen; omega, by rw [List.size_toArray, bv_length, Nat.mul_one], ?_⟩⟩, hb⟩
  rw [Nat.mul_one, List.take_of_length_le (by simp [bv_length])]

set_option maxHeartbeats 4000000 in
theorem FrameJoins_walk (av : Value) (xa : List (List Int)) (bv0 : Value) (xb : List (List Int)) (junk : Int) (w : World) (w0 : VRow w av xa) (w1 : VRow w bv0 xb) (w2 : (Lit.int .u8 junk).wf = true) :
    Calls Try.prog 6 #[av, bv0, .int .u8 junk] w fun e w' => e = .returned (.bool true) ∧ Below w.heap.size w w' := by
  have hj := wf_u8 w2
  have hlena := w0.lenRun
  have hlenb := w1.lenRun
  have HA := hide w0
  have HB := hide w1
  clear w0 w1
  go_enter Try.func6, Try.ntmps6
  go_wp2
  go_loopw [7, 9] (fun x i wr => ∃ k : Nat, k ≤ min xa.length 8 ∧ i = .int .i64 k ∧ Own w.heap.size wr x (recs (xa.take k)) ∧ (∀ b ∈ xa.take k, b.length ≤ 150) ∧ Below w.heap.size w wr) (fun _ i _ => 8 - (intOf i).toNat)
  case atStart => exact ⟨0, Nat.zero_le _, rfl, by simpa [recs] using Own.nil _ _, by simp, Below.refl _ _⟩
  case round =>
    obtain ⟨k, hk, rfl, ho, hl, hb⟩ := hrel
    have HO := hide ho
    have HL := hide hl
    clear ho hl
    go_upto_region 3 with fail
    go_cut [30] (fun c wx => c = .bool (decide (k < min xa.length 8)) ∧ wx = wr)
    case first =>
      by_cases h1 : k < xa.length
      · have h1' : (k : Int) < xa.length := by omega
        by_cases h2 : k < 8
        · have h2' : (k : Int) < 8 := by omega
          go_wp2
          go_meet
          exact ⟨congrArg Value.bool (decide_eq_true (by omega)).symm, rfl⟩
        · have h2' : ¬ (k : Int) < 8 := by omega
          go_wp2
          go_meet
          exact ⟨congrArg Value.bool (decide_eq_false (by omega)).symm, rfl⟩
      · have h1' : ¬ (k : Int) < xa.length := by omega
        go_wp2
        go_meet
        exact ⟨congrArg Value.bool (decide_eq_false (by omega)).symm, rfl⟩
    case rest =>
      obtain ⟨hc, rfl⟩ := hcut
      by_cases hlt : k < min xa.length 8
      · rw [decide_eq_true hlt] at hc
        subst hc
        obtain ⟨p, u, hix, hcp, hru⟩ := (HA.out.below hb).idx k (by omega)
        obtain ⟨y, hy⟩ : ∃ y, xa.getD k [] = y := ⟨_, rfl⟩
        rw [hy] at hru
        have HY := hide hy
        obtain ⟨ua, uc, rfl⟩ := hru.of_len
        have HU := hide hru
        clear hru hy
        by_cases h150 : 150 < y.length
        · have h150' : (150 : Int) < y.length := by omega
          go_wp2_with fail
          refine (awake_any _).mono ?_
          rintro e w5 ⟨rfl, hb5⟩
          go_wp2
          go_ret
          exact ⟨rfl, hb.trans (hb5.mono hb.size)⟩
        · have h150' : (y.length : Int) ≤ 150 := by omega
          have HX := hide (show (recs (xa.take k)).length ≤ 157 * 8 by
            have := recs_len HL.out
            rw [List.length_take] at this
            omega)
          go_wp2_with fail
          refine (record_any wc _ y HU.out (by omega)).mono ?_
          rintro e w5 ⟨v5, rfl, ho5, hb5⟩
          have hB5 : Below w.heap.size w w5 := hb.trans (hb5.mono hb.size)
          have HO5 := hide (HO.out.kept hb5)
          go_wp2_with (at_builtin; refine wpList_append_row rfl _ _ rfl w.heap.size _ _ (recs (xa.take k)) (recB y) rfl HO5.out rfl ho5.row (by rw [recB_length]; have := HX.out; omega) hB5.size ?_)
          intro v6 w6 ho6 hg6
          have hB6 : Below w.heap.size w w6 := HO5.out.grown_below hB5 hg6 (Nat.le_refl _) hB5.size
          have HT := hide (show xa.take (k + 1) = xa.take k ++ [y] by rw [take_one_more2 (by omega), HY.out])
          have HO6 := hide (show Own w.heap.size w6 v6 (recs (xa.take (k + 1))) by rw [HT.out, recs_snoc]; exact ho6)
          have HL6 := hide (show ∀ b ∈ xa.take (k + 1), b.length ≤ 150 by
            rw [HT.out]
            intro b hb
            rcases List.mem_append.1 hb with h' | h'
            · exact HL.out b h'
            · simp at h'; subst h'; omega)
          clear ho6 hg6 ho5 hb5
          go_wp2
          exact ⟨⟨k + 1, by omega, by go_num, HO6.out, HL6.out, hB6⟩, by simp [intOf]; omega⟩
      · rw [decide_eq_false hlt] at hc
        subst hc
        have hkm : k = min xa.length 8 := by omega
        obtain ⟨X, hX⟩ : ∃ X, xa.take k = X := ⟨_, rfl⟩
        rw [hX] at HO HL
        have HXL := hide (show X.length = min xa.length 8 by rw [← hX, List.length_take]; omega)
        have HXR := hide (show (recs X).length ≤ 157 * 8 by
          have := recs_len HL.out
          have := HXL.out
          omega)
        have HXB := hide (show ∀ b ∈ X, b.length ≤ 65000 from fun b hb => Nat.le_trans (HL.out b hb) (by omega))
        clear hX hlt hkm HL
        go_wp2
        generalize wc = W1 at *
        have hbw := hb
        go_loopw [8, 10] (fun x i wr => ∃ j : Nat, j ≤ min xb.length 8 ∧ i = .int .i64 j ∧ Own W1.heap.size wr x (recs (xb.take j)) ∧ (∀ b ∈ xb.take j, b.length ≤ 150) ∧ Below W1.heap.size W1 wr) (fun _ i _ => 8 - (intOf i).toNat)
        case atStart => exact ⟨0, Nat.zero_le _, rfl, by simpa [recs] using Own.nil _ _, by simp, Below.refl _ _⟩
        case round =>
          clear hb
          obtain ⟨j, hj, rfl, hoy, hly, hb⟩ := hrel
          have HOY := hide hoy
          have HLY := hide hly
          clear hoy hly
          go_upto_region 9 with fail
          go_cut [54] (fun c wx => c = .bool (decide (j < min xb.length 8)) ∧ wx = wr)
          case first =>
            by_cases h1 : j < xb.length
            · have h1' : (j : Int) < xb.length := by omega
              by_cases h2 : j < 8
              · have h2' : (j : Int) < 8 := by omega
                go_wp2
                go_meet
                exact ⟨congrArg Value.bool (decide_eq_true (by omega)).symm, rfl⟩
              · have h2' : ¬ (j : Int) < 8 := by omega
                go_wp2
                go_meet
                exact ⟨congrArg Value.bool (decide_eq_false (by omega)).symm, rfl⟩
            · have h1' : ¬ (j : Int) < xb.length := by omega
              go_wp2
              go_meet
              exact ⟨congrArg Value.bool (decide_eq_false (by omega)).symm, rfl⟩
          case rest =>
            obtain ⟨hc, rfl⟩ := hcut
            by_cases hlt : j < min xb.length 8
            · rw [decide_eq_true hlt] at hc
              subst hc
              obtain ⟨p, u, hix, hcp, hru⟩ := ((HB.out.below hbw).below hb).idx j (by omega)
              obtain ⟨y, hy⟩ : ∃ y, xb.getD j [] = y := ⟨_, rfl⟩
              rw [hy] at hru
              have HY := hide hy
              obtain ⟨ua, uc, rfl⟩ := hru.of_len
              have HU := hide hru
              clear hru hy
              by_cases h150 : 150 < y.length
              · have h150' : (150 : Int) < y.length := by omega
                go_wp2_with fail
                refine (awake_any _).mono ?_
                rintro e w5 ⟨rfl, hb5⟩
                go_wp2
                go_ret
                exact ⟨rfl, hbw.trans ((hb.trans (hb5.mono hb.size)).mono hbw.size)⟩
              · have h150' : (y.length : Int) ≤ 150 := by omega
                have HX := hide (show (recs (xb.take j)).length ≤ 157 * 8 by
                  have := recs_len HLY.out
                  rw [List.length_take] at this
                  omega)
                go_wp2_with fail
                refine (record_any wc _ y HU.out (by omega)).mono ?_
                rintro e w5 ⟨v5, rfl, ho5, hb5⟩
                have hB5 : Below W1.heap.size W1 w5 := hb.trans (hb5.mono hb.size)
                have HO5 := hide (HOY.out.kept hb5)
                go_wp2_with (at_builtin; refine wpList_append_row rfl _ _ rfl W1.heap.size _ _ (recs (xb.take j)) (recB y) rfl HO5.out rfl ho5.row (by rw [recB_length]; have := HX.out; omega) hB5.size ?_)
                intro v6 w6 ho6 hg6
                have hB6 : Below W1.heap.size W1 w6 := HO5.out.grown_below hB5 hg6 (Nat.le_refl _) hB5.size
                have HT := hide (show xb.take (j + 1) = xb.take j ++ [y] by rw [take_one_more2 (by omega), HY.out])
                have HO6 := hide (show Own W1.heap.size w6 v6 (recs (xb.take (j + 1))) by rw [HT.out, recs_snoc]; exact ho6)
                have HL6 := hide (show ∀ b ∈ xb.take (j + 1), b.length ≤ 150 by
                  rw [HT.out]
                  intro b hb
                  rcases List.mem_append.1 hb with h' | h'
                  · exact HLY.out b h'
                  · simp at h'; subst h'; omega)
                clear ho6 hg6 ho5 hb5
                go_wp2
                exact ⟨⟨j + 1, by omega, by go_num, HO6.out, HL6.out, hB6⟩, by simp [intOf]; omega⟩
            · rw [decide_eq_false hlt] at hc
              subst hc
              have hjm : j = min xb.length 8 := by omega
              obtain ⟨Y, hY⟩ : ∃ Y, xb.take j = Y := ⟨_, rfl⟩
              rw [hY] at HOY HLY
              have HYL := hide (show Y.length = min xb.length 8 by rw [← hY, List.length_take]; omega)
              have HYR := hide (show (recs Y).length ≤ 157 * 8 by
                have := recs_len HLY.out
                have := HYL.out
                omega)
              have HYB := hide (show ∀ b ∈ Y, b.length ≤ 65000 from fun b hb => Nat.le_trans (HLY.out b hb) (by omega))
              have HX1 := hide (HO.out.kept hb)
              have hbW : Below w.heap.size w wc := hbw.trans (hb.mono hbw.size)
              have HY1 := hide (HOY.out.mono hbw.size)
              clear hY hlt hjm HLY HO HOY
              have hFX : Found (recs X) X (recs X).length := by
                have := found_recs (rest := []) HXB.out (.stop firstS_nil)
                simpa using this
              have hFY : Found (recs Y) Y (recs Y).length := by
                have := found_recs (rest := []) HYB.out (.stop firstS_nil)
                simpa using this
              have hFA : Found (recs X ++ recs Y) (X ++ Y) ((recs X).length + (recs Y).length) := found_recs HXB.out hFY
              have hFN : Found ([255, 255, junk] ++ recs X) [] 0 := by
                refine .stop ?_
                refine firstS_over (N := 65535) (by simp [saidN, List.getD]) (.inl (by omega))
              have HFX := hide hFX
              have HFY := hide hFY
              have HFA := hide hFA
              have HFN := hide hFN
              clear hFX hFY hFA hFN
              go_wp2_with fail
              refine (Scan_known HX1.out.row (by have := HXR.out; omega) HFX.out).mono ?_
              rintro e w2 ⟨p, us, rfl, hv2, hw2, hb2⟩
              have HP := hide (show VRow w2 p X from ⟨us, hv2.vals, hw2.rows⟩)
              have HX2 := hide (HX1.out.kept hb2)
              have HY2 := hide (HY1.out.kept hb2)
              have hB2 : Below w.heap.size w w2 := hbW.trans (hb2.mono hbW.size)
              clear hv2 hw2 hb2 HX1 HY1
              rw [List.drop_of_length_le (Nat.le_refl _)]
              go_wp2_with fail
              refine (Scan_known HY2.out.row (by have := HYR.out; omega) HFY.out).mono ?_
              rintro e w3 ⟨q, us3, rfl, hv3, hw3, hb3⟩
              have HQ := hide (show VRow w3 q Y from ⟨us3, hv3.vals, hw3.rows⟩)
              have HP3 := hide (HP.out.below hb3)
              have HX3 := hide (HX2.out.kept hb3)
              have HY3 := hide (HY2.out.kept hb3)
              have hB3 : Below w.heap.size w w3 := hB2.trans (hb3.mono hB2.size)
              clear hv3 hw3 hb3 HX2 HY2 HP
              rw [List.drop_of_length_le (Nat.le_refl _)]
              go_wp2_with (at_builtin; refine wpList_append_row rfl _ _ rfl w3.heap.size _ _ [] (recs X) rfl (Own.nil _ _) rfl HX3.out.row (by have := HXR.out; simp; omega) (Nat.le_refl _) ?_)
              intro v4 w4 ho4 hg4
              have hb4 : Below w3.heap.size w3 w4 := grown_below hg4
              try rw [List.nil_append] at ho4
              have HO4 := hide ho4
              clear ho4 hg4
              go_wp2_with (at_builtin; refine wpList_append_row rfl _ _ rfl w3.heap.size _ _ (recs X) (recs Y) rfl HO4.out rfl (HY3.out.kept hb4).row (by have := HXR.out; have := HYR.out; omega) hb4.size ?_)
              intro v5 w5 ho5 hg5
              have hb5 : Below w3.heap.size w3 w5 := HO4.out.grown_below hb4 hg5 (Nat.le_refl _) hb4.size
              have HO5 := hide ho5
              clear ho5 hg5 hb4 HO4
              go_wp2_with fail
              refine (Scan_known HO5.out.row (by rw [List.length_append]; have := HXR.out; have := HYR.out; omega) HFA.out).mono ?_
              rintro e w6 ⟨l, us6, rfl, hv6, hw6, hb6⟩
              have HL := hide (show VRow w6 l (X ++ Y) from ⟨us6, hv6.vals, hw6.rows⟩)
              have hb36 : Below w3.heap.size w3 w6 := hb5.trans (hb6.mono hb5.size)
              have HP6 := hide (HP3.out.below hb36)
              have HQ6 := hide (HQ.out.below hb36)
              have HX6 := hide (HX3.out.kept hb36)
              have HY6 := hide (HY3.out.kept hb36)
              have hB6 : Below w.heap.size w w6 := hB3.trans (hb36.mono hB3.size)
              clear hv6 hw6 hb6 hb36 hb5 HO5 HP3 HQ HX3 HY3
              rw [List.drop_of_length_le (by rw [List.length_append]; exact Nat.le_refl _)]
              have hno : Own w6.heap.size (w6.alloc (.cells #[.int .u8 255, .int .u8 255, .int .u8 junk] 5)) (.slice (some ⟨w6.heap.size, 0, none⟩) 3 3) [255, 255, junk] := own_lit w6 [255, 255, junk] (by intro z hz; simp at hz; omega) (by simp)
              have hb7a : Below w6.heap.size w6 (w6.alloc (.cells #[.int .u8 255, .int .u8 255, .int .u8 junk] 5)) := (Below.refl _ _).alloc (Nat.le_refl _) _
              go_wp2_with (at_builtin; refine wpList_append_row rfl _ _ rfl w6.heap.size _ _ [255, 255, junk] (recs X) rfl hno rfl (HX6.out.kept hb7a).row (by have := HXR.out; simp; omega) hb7a.size ?_)
              intro v7 w7 ho7 hg7
              have hb7 : Below w6.heap.size w6 w7 := hno.grown_below hb7a hg7 (Nat.le_refl _) hb7a.size
              have HO7 := hide ho7
              clear ho7 hg7 hb7a hno
              go_wp2_with fail
              refine (Scan_known HO7.out.row (by have := HXR.out; simp; omega) HFN.out).mono ?_
              rintro e w8 ⟨l0, us8, rfl, hv8, hw8, hb8⟩
              have hlen8 := (show VRow w8 l0 [] from ⟨us8, hv8.vals, hw8.rows⟩).lenRun
              have hb68 : Below w6.heap.size w6 w8 := hb7.trans (hb8.mono hb7.size)
              clear hv8 hw8 hb7 hb8 HO7
              generalize clean (([255, 255, junk] ++ recs X).drop 0) = cl0
              have hlenp := HP6.out.lenRun
              have hlenx := HX6.out.row.lenRun
              have hleny := HY6.out.row.lenRun
              go_wp2_with fail
              refine (awake_any w8).mono ?_
              rintro e w9 ⟨rfl, hb9⟩
              have hb69 : Below w6.heap.size w6 w9 := hb68.trans (hb9.mono hb68.size)
              have HL9 := hide (HL.out.below hb69)
              have HP9 := hide (HP6.out.below hb69)
              have HQ9 := hide (HQ6.out.below hb69)
              have hB9 : Below w.heap.size w w9 := hB6.trans (hb69.mono hB6.size)
              clear hb68 hb9 hb69 HL HP6 HQ6 HX6 HY6
              obtain ⟨up, hvp, hrp⟩ := HP9.out
              obtain ⟨uq, hvq, hrq⟩ := HQ9.out
              have hupl : up.length ≤ 8 := by have := hrp.1; have := HXL.out; omega
              have huql : uq.length ≤ 8 := by have := hrq.1; have := HYL.out; omega
              have HVP := hide hvp
              have HRP := hide hrp
              have HVQ := hide hvq
              have HRQ := hide hrq
              have HUP := hide hupl
              have HUQ := hide huql
              clear hvp hrp hvq hrq hupl huql
              go_wp2_with (at_builtin; refine wpList_unguard rfl ?_; refine wpList_append_vals rfl _ _ rfl w9.heap.size _ _ [] up rfl (VOwn.nil _ _) rfl HVP.out HRP.out.slices (by have := HUP.out; simp; omega) (Nat.le_refl _) ?_)
              intro v10 w10 hv10 hg10
              have hb10 : Below w9.heap.size w9 w10 := grown_below hg10
              try rw [List.nil_append] at hv10
              have HV10 := hide hv10
              clear hv10 hg10
              go_wp2_with (at_builtin; refine wpList_unguard rfl ?_; refine wpList_append_vals rfl _ _ rfl w9.heap.size _ _ up uq rfl HV10.out rfl (HVQ.out.below hb10) HRQ.out.slices (by have := HUP.out; have := HUQ.out; omega) hb10.size ?_)
              intro v11 w11 hv11 hg11
              have hb11 : Below w9.heap.size w9 w11 := HV10.out.grown_below hb10 hg11 (Nat.le_refl _) hb10.size
              have HV11 := hide (show VRow w11 v11 (X ++ Y) from ⟨up ++ uq, hv11.vals, (HRP.out.below hb11).app (HRQ.out.below hb11)⟩)
              clear hv11 hg11 hb10 HV10
              have hB11 : Below w.heap.size w w11 := hB9.trans (hb11.mono hB9.size)
              go_wp2_with fail
              refine (Same2_any w11 l v11 _ _ (HL9.out.below hb11) HV11.out).mono ?_
              rintro e w12 ⟨rfl, hst⟩
              simp only [decide_true]
              have hB12 := hB11.trans (hst _)
              have hmin : min (xa.length : Int) 8 = (X.length : Int) := by have := HXL.out; omega
              rw [show clean [] = true from rfl]
              have hxr : ((recs X).length : Int) ≤ 1256 := by have := HXR.out; omega
              have hyr : ((recs Y).length : Int) ≤ 1256 := by have := HYR.out; omega
              generalize (recs X).length = rx at *
              generalize (recs Y).length = ry at *
              clear HXR HYR HXB HYB HFX HFY HFA HFN HUP HUQ HA HB
              go_wp2
              go_ret
              first
                | exact ⟨rfl, hB12⟩
                | exact ⟨ret_one (congrArg Value.bool (by simp; omega)), hB12⟩
end Go.Proofs.Ytnaklimfbddaaaa
