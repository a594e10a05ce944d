/-
  The walk of EntriesPlay.
-/
import Derived.Test.YtjmdinfdnjbcoaaAwake11
import Derived.Test.YtjmdinfdnjbcoaaEntV
import Derived.Test.YtjmdinfdnjbcoaaEntX
import Derived.Test.YtjmdinfdnjbcoaaEntQ
namespace Go.Proofs.Ytjmdinfdnjbcoaa
open Go.RowKit
set_option linter.unusedVariables false
set_option linter.unusedSimpArgs false
set_option maxRecDepth 100000

set_option maxHeartbeats 4000000 in
theorem EntriesPlay_walk (lv : Value) (l : List En) (gv : Value) (gs : List ByteArray) (w : World) (hl : ERow w lv l) (hg : SRow w gv gs) :
    Calls Try.prog 4 #[lv, gv] w fun e w' => e = .returned (.bool true) ∧ Below w.heap.size w w' := by
  have hlr := hl.lenRun
  have hlm := hl.len
  have hgr := hg.lenRun
  have hgm := hg.len
  unfold maxLen at hlm hgm
  have HL := hide hl
  have HG := hide hg
  have haw := fun W => awake_any W
  obtain ⟨len, hL⟩ : ∃ n, l.length = n := ⟨_, rfl⟩
  have HLen := hide hL
  simp only [hL] at hlr
  rw [hL] at hlm
  obtain ⟨gl, hG⟩ : ∃ n, gs.length = n := ⟨_, rfl⟩
  have HGen := hide hG
  simp only [hG] at hgr
  rw [hG] at hgm
  clear hL hl hG hg
  by_cases h150 : 150 < len
  · have h2' : (150 : Int) < len := by omega
    go_enter Try.func4, Try.ntmps4
    go_wp2_with fail
    refine (haw _).mono ?_
    rintro e w1 ⟨rfl, hb1⟩
    go_wp2
    go_ret
    exact ⟨rfl, hb1⟩
  · have h2' : ¬ (150 : Int) < len := by omega
    by_cases h50 : 50 < gl
    · have h3' : (50 : Int) < gl := by omega
      have d2 : decide ((150 : Int) < len) = false := by simpa using h2'
      go_enter Try.func4, Try.ntmps4
      go_wp2_with fail
      refine (haw _).mono ?_
      rintro e w1 ⟨rfl, hb1⟩
      go_wp2
      go_ret
      exact ⟨rfl, hb1⟩
    · have h3' : ¬ (50 : Int) < gl := by omega
      have d2 : decide ((150 : Int) < len) = false := by simpa using h2'
      have d3 : decide ((50 : Int) < gl) = false := by simpa using h3'
      go_enter Try.func4, Try.ntmps4
      go_wp2_with fail
      go_loopw [5, 6, 7] (fun x t i wr => ∃ (k : Nat) (X : List En), k ≤ len ∧ i = .int .i64 k ∧ t = .int .i64 (X.length : Int) ∧ Hid (ERow wr x X) ∧ Hid (Asc X) ∧ X.length ≤ k ∧ X.length ≤ 100 ∧ Hid (Below w.heap.size w wr)) (fun _ _ i _ => len - (intOf i).toNat)
      case atStart => exact ⟨0, [], Nat.zero_le _, rfl, rfl, hide (ERow.nil w), hide Asc.nil, Nat.zero_le _, Nat.zero_le _, hide (Below.refl _ _)⟩
      case round =>
        obtain ⟨k, X, hk, rfl, rfl, HX, HA, hXk, hX100, HBK⟩ := hrel
        have HXZ : Hid (X.length ≤ 1000000) := hide (by omega)
        have hxl := HX.out.lenRun
        by_cases hlt : k < len
        · have hlt' : (k : Int) < len := by omega
          have hkl : k < l.length := by rw [HLen.out]; exact hlt
          have HLK := hide (HL.out.below HBK.out)
          obtain ⟨bb, o, hbs, hix, c0, c1⟩ := HLK.out.idx k hkl
          have hwf := HL.out.2 _ (getD_memE hkl)
          generalize l.getD k default = E at *
          obtain ⟨xs, xn⟩ := E
          simp only at c0 c1
          have HWF := hide hwf
          have hri := fun W => RRight_any W xs hwf.s
          clear hwf hbs hkl
          cases hok : okS X ⟨xs, xn⟩ with
          | false =>
            have HERR := hide (add_no hok)
            cases h1 : rightN (bl xs) with
            | false =>
              simp only [h1] at hri
              generalize (atS X (bl xs)).isSome = had at *
              clear hok h1
              go_wp2_with fail
              refine (Find_any wr u5 X HX.out HXZ.out xs HWF.out.s).mono ?_
              rintro e1 w1 ⟨rfl, hb1⟩
              rw [findS_there]
              generalize (findS X (bl xs)).1 = N0

              have HX1 := hide (HX.out.below hb1)
              have HL1 := hide (HLK.out.below hb1)
              have HB1 := hide (kl_step hb1 HBK.out)
              have a0 := kl_cell hb1 c0
              have a1 := kl_cell hb1 c1
              clear hb1 c0 c1
              go_wp2_with fail
              refine (Add_any w1 u5 X xs xn HX1.out HXZ.out HWF.out).mono ?_
              rintro e2 w2 ⟨y, rfl, hoy, hb2⟩
              have HX2 := hide (HX1.out.below hb2)
              have HL2 := hide (HL1.out.below hb2)
              have HB2 := hide (kl_step hb2 HB1.out)
              have b0 := kl_cell hb2 a0
              have b1 := kl_cell hb2 a1
              clear hoy
              have her := HERR.out
              generalize (addS X ⟨xs, xn⟩).2 = er at *
              have her2 : (er == 0) = false := by simpa using her
              clear her
              clear hb2 a0 a1
              go_wp2_with fail
              refine (hri w2).mono ?_
              rintro e3 w3 ⟨rfl, hw3⟩
              obtain rfl : w2 = w3 := hw3.symm
              clear hw3
              go_wp2
              exact ⟨⟨k + 1, X, by omega, by go_num, rfl, HX2, HA, by omega, hX100, HB2⟩, by simp [intOf]; omega⟩
            | true =>
              simp only [h1] at hri
              by_cases h2 : 0 < xn
              · cases h3 : atS X (bl xs) with
                | some i =>
                  have HSO := hide (show (atS X (bl xs)).isSome = true by rw [h3]; rfl)
                  clear hok h1 h3
                  go_wp2_with fail
                  refine (Find_any wr u5 X HX.out HXZ.out xs HWF.out.s).mono ?_
                  rintro e1 w1 ⟨rfl, hb1⟩
                  rw [findS_there]
                  generalize (findS X (bl xs)).1 = N0
                  rw [HSO.out]
                  have HX1 := hide (HX.out.below hb1)
                  have HL1 := hide (HLK.out.below hb1)
                  have HB1 := hide (kl_step hb1 HBK.out)
                  have a0 := kl_cell hb1 c0
                  have a1 := kl_cell hb1 c1
                  clear hb1 c0 c1
                  go_wp2_with fail
                  refine (Add_any w1 u5 X xs xn HX1.out HXZ.out HWF.out).mono ?_
                  rintro e2 w2 ⟨y, rfl, hoy, hb2⟩
                  have HX2 := hide (HX1.out.below hb2)
                  have HL2 := hide (HL1.out.below hb2)
                  have HB2 := hide (kl_step hb2 HB1.out)
                  have b0 := kl_cell hb2 a0
                  have b1 := kl_cell hb2 a1
                  clear hoy
                  have her := HERR.out
                  generalize (addS X ⟨xs, xn⟩).2 = er at *
                  have her2 : (er == 0) = false := by simpa using her
                  clear her
                  clear hb2 a0 a1
                  go_wp2_with fail
                  refine (hri w2).mono ?_
                  rintro e3 w3 ⟨rfl, hw3⟩
                  obtain rfl : w2 = w3 := hw3.symm
                  clear hw3
                  go_wp2
                  exact ⟨⟨k + 1, X, by omega, by go_num, rfl, HX2, HA, by omega, hX100, HB2⟩, by simp [intOf]; omega⟩
                | none =>
                  have h4 : ¬ X.length < 100 := by
                    intro h4
                    unfold okS at hok
                    simp only [h1, h2, h3, h4] at hok
                    simp at hok
                  have h4' : ¬ ((X.length : Int) < 100) := by omega
                  have HSO := hide (show (atS X (bl xs)).isSome = false by rw [h3]; rfl)
                  clear hok h1 h3 h4
                  go_wp2_with fail
                  refine (Find_any wr u5 X HX.out HXZ.out xs HWF.out.s).mono ?_
                  rintro e1 w1 ⟨rfl, hb1⟩
                  rw [findS_there]
                  generalize (findS X (bl xs)).1 = N0
                  rw [HSO.out]
                  have HX1 := hide (HX.out.below hb1)
                  have HL1 := hide (HLK.out.below hb1)
                  have HB1 := hide (kl_step hb1 HBK.out)
                  have a0 := kl_cell hb1 c0
                  have a1 := kl_cell hb1 c1
                  clear hb1 c0 c1
                  go_wp2_with fail
                  refine (Add_any w1 u5 X xs xn HX1.out HXZ.out HWF.out).mono ?_
                  rintro e2 w2 ⟨y, rfl, hoy, hb2⟩
                  have HX2 := hide (HX1.out.below hb2)
                  have HL2 := hide (HL1.out.below hb2)
                  have HB2 := hide (kl_step hb2 HB1.out)
                  have b0 := kl_cell hb2 a0
                  have b1 := kl_cell hb2 a1
                  clear hoy
                  have her := HERR.out
                  generalize (addS X ⟨xs, xn⟩).2 = er at *
                  have her2 : (er == 0) = false := by simpa using her
                  clear her
                  clear hb2 a0 a1
                  go_wp2_with fail
                  refine (hri w2).mono ?_
                  rintro e3 w3 ⟨rfl, hw3⟩
                  obtain rfl : w2 = w3 := hw3.symm
                  clear hw3
                  go_wp2
                  exact ⟨⟨k + 1, X, by omega, by go_num, rfl, HX2, HA, by omega, hX100, HB2⟩, by simp [intOf]; omega⟩
              · have h2' : decide (0 < xn) = false := by simpa using h2
                generalize (atS X (bl xs)).isSome = had at *
                clear hok h1
                go_wp2_with fail
                refine (Find_any wr u5 X HX.out HXZ.out xs HWF.out.s).mono ?_
                rintro e1 w1 ⟨rfl, hb1⟩
                rw [findS_there]
                generalize (findS X (bl xs)).1 = N0

                have HX1 := hide (HX.out.below hb1)
                have HL1 := hide (HLK.out.below hb1)
                have HB1 := hide (kl_step hb1 HBK.out)
                have a0 := kl_cell hb1 c0
                have a1 := kl_cell hb1 c1
                clear hb1 c0 c1
                go_wp2_with fail
                refine (Add_any w1 u5 X xs xn HX1.out HXZ.out HWF.out).mono ?_
                rintro e2 w2 ⟨y, rfl, hoy, hb2⟩
                have HX2 := hide (HX1.out.below hb2)
                have HL2 := hide (HL1.out.below hb2)
                have HB2 := hide (kl_step hb2 HB1.out)
                have b0 := kl_cell hb2 a0
                have b1 := kl_cell hb2 a1
                clear hoy
                have her := HERR.out
                generalize (addS X ⟨xs, xn⟩).2 = er at *
                have her2 : (er == 0) = false := by simpa using her
                clear her
                clear hb2 a0 a1
                go_wp2_with fail
                refine (hri w2).mono ?_
                rintro e3 w3 ⟨rfl, hw3⟩
                obtain rfl : w2 = w3 := hw3.symm
                clear hw3
                go_wp2
                exact ⟨⟨k + 1, X, by omega, by go_num, rfl, HX2, HA, by omega, hX100, HB2⟩, by simp [intOf]; omega⟩
          | true =>
            obtain ⟨h1, h2, h3, h4⟩ := ok_none hok
            have HADD := hide (add_yes hok)
            have HNO := hide h3
            have HA2 := hide (asc_ins HA.out h1 h2 h3)
            have HIL := hide (ins_length X (aboveS X (bl xs)) ⟨xs, xn⟩ (above_le _ _))
            have HFI := hide (find_ins (l := X) (e := ⟨xs, xn⟩) (above_le X (bl xs)) h3)
            dsimp only at h1 h2
            simp only [h1] at hri
            have h4' : (X.length : Int) < 100 := by omega
            clear hok h1 h3
            go_wp2_with fail
            refine (Find_any wr u5 X HX.out HXZ.out xs HWF.out.s).mono ?_
            rintro e1 w1 ⟨rfl, hb1⟩
            rw [findS_there]
            generalize (findS X (bl xs)).1 = N0
            rw [HNO.out, Option.isSome_none]
            have HX1 := hide (HX.out.below hb1)
            have HL1 := hide (HLK.out.below hb1)
            have HB1 := hide (kl_step hb1 HBK.out)
            have a0 := kl_cell hb1 c0
            have a1 := kl_cell hb1 c1
            clear hb1 c0 c1
            go_wp2_with fail
            refine (Add_any w1 u5 X xs xn HX1.out HXZ.out HWF.out).mono ?_
            rintro e2 w2 ⟨y, rfl, hoy, hb2⟩
            have HX2 := hide (HX1.out.below hb2)
            have HL2 := hide (HL1.out.below hb2)
            have HB2 := hide (kl_step hb2 HB1.out)
            have b0 := kl_cell hb2 a0
            have b1 := kl_cell hb2 a1
            rw [HADD.out]
            rw [HADD.out] at hoy
            have HY := hide hoy.row
            clear hoy
            clear hb2 a0 a1
            go_wp2_with fail
            refine (hri w2).mono ?_
            rintro e3 w3 ⟨rfl, hw3⟩
            obtain rfl : w2 = w3 := hw3.symm
            clear hw3
            go_wp2_with fail
            refine (Find_any w2 y (insS X (aboveS X (bl xs)) ⟨xs, xn⟩) HY.out (by rw [HIL.out]; omega) xs HWF.out.s).mono ?_
            rintro e4 w4 ⟨rfl, hb4⟩
            rw [HFI.out]
            have HY4 := hide (HY.out.below hb4)
            have HL4 := hide (HL2.out.below hb4)
            have HB4 := hide (kl_step hb4 HB2.out)
            have d0 := kl_cell hb4 b0
            have d1 := kl_cell hb4 b1
            clear hb4 b0 b1
            go_wp2
            exact ⟨⟨k + 1, insS X (aboveS X (bl xs)) ⟨xs, xn⟩, by omega, by go_num, by rw [HIL.out]; go_num, HY4, HA2, by rw [HIL.out]; omega, by rw [HIL.out]; omega, HB4⟩, by simp [intOf]; omega⟩
        · obtain rfl : k = len := by omega
          go_wp2_with fail
          go_loopw [5, 6, 15] (fun x t i wr => ∃ (q : Nat) (Y : List En), q ≤ gl ∧ i = .int .i64 q ∧ t = .int .i64 (Y.length : Int) ∧ Hid (ERow wr x Y) ∧ Hid (Asc Y) ∧ Y.length ≤ 100 ∧ Hid (Below w.heap.size w wr)) (fun _ _ i _ => gl - (intOf i).toNat)
          case atStart => exact ⟨0, X, Nat.zero_le _, rfl, rfl, HX, HA, hX100, HBK⟩
          case round =>
            clear hxl HX HA HBK hXk hX100 HXZ
            obtain ⟨q, Y, hq, rfl, rfl, HY, HAY, hY100, HBY⟩ := hrel
            have HYZ : Hid (Y.length ≤ 1000000) := hide (by omega)
            have hyl := HY.out.lenRun
            by_cases hlt : q < gl
            · have hlt' : (q : Int) < gl := by omega
              have hql : q < gs.length := by rw [HGen.out]; exact hlt
              obtain ⟨bb, o, _, hix, c0⟩ := (HG.out.below HBY.out).idx q hql
              have hsm := HG.out.small _ (show gs.getD q ByteArray.empty ∈ gs from by rw [show gs.getD q ByteArray.empty = gs[q] from by simp [List.getD, List.getElem?_eq_getElem hql]]; exact List.getElem_mem hql)
              generalize gs.getD q ByteArray.empty = gx at *
              have HSM := hide hsm
              clear hsm hql
              cases hat : atS Y (bl gx) with
              | none =>
                have HFN := hide (findS_none hat)
                have HRM := hide (remS_none hat)
                clear hat
                go_wp2_with fail
                refine (Find_any wr u5 Y HY.out HYZ.out gx HSM.out).mono ?_
                rintro e1 w1 ⟨rfl, hb1⟩
                rw [HFN.out]
                have HY1 := hide (HY.out.below hb1)
                have HB1 := hide (kl_step hb1 HBY.out)
                have a0 := kl_cell hb1 c0
                clear hb1 c0
                go_wp2_with fail
                refine (Remove_any w1 u5 Y HY1.out HYZ.out gx HSM.out).mono ?_
                rintro e2 w2 ⟨y, rfl, hoy, hb2⟩
                rw [HRM.out]
                have HY2 := hide (HY1.out.below hb2)
                have HB2 := hide (kl_step hb2 HB1.out)
                have b0 := kl_cell hb2 a0
                clear hb2 a0 hoy
                go_wp2_with fail
                refine (Find_any w2 u5 Y HY2.out HYZ.out gx HSM.out).mono ?_
                rintro e3 w3 ⟨rfl, hb3⟩
                rw [HFN.out]
                have HY3 := hide (HY2.out.below hb3)
                have HB3 := hide (kl_step hb3 HB2.out)
                clear hb3 b0
                go_wp2
                exact ⟨⟨q + 1, Y, by omega, by go_num, rfl, HY3, HAY, hY100, HB3⟩, by simp [intOf]; omega⟩
              | some i =>
                have hil := atS_lt hat
                have HFS := hide (findS_some hat)
                have HRM := hide (remS_some hat)
                have HFN := hide (findS_none (at_cut HAY.out hat))
                have HAC := hide (asc_cut HAY.out i)
                have HCL := hide (cutAt_length Y i hil)
                clear hat
                go_wp2_with fail
                refine (Find_any wr u5 Y HY.out HYZ.out gx HSM.out).mono ?_
                rintro e1 w1 ⟨rfl, hb1⟩
                rw [HFS.out]
                generalize (Y.getD i default).n = N0
                have HY1 := hide (HY.out.below hb1)
                have HB1 := hide (kl_step hb1 HBY.out)
                have a0 := kl_cell hb1 c0
                clear hb1 c0
                go_wp2_with fail
                refine (Remove_any w1 u5 Y HY1.out HYZ.out gx HSM.out).mono ?_
                rintro e2 w2 ⟨y, rfl, hoy, hb2⟩
                rw [HRM.out]
                rw [HRM.out] at hoy
                have HY2 := hide hoy.row
                have HB2 := hide (kl_step hb2 HB1.out)
                have b0 := kl_cell hb2 a0
                clear hb2 a0 hoy
                go_wp2_with fail
                refine (Find_any w2 y (cutAt Y i) HY2.out (by rw [HCL.out]; omega) gx HSM.out).mono ?_
                rintro e3 w3 ⟨rfl, hb3⟩
                rw [HFN.out]
                have HY3 := hide (HY2.out.below hb3)
                have HB3 := hide (kl_step hb3 HB2.out)
                clear hb3 b0
                go_wp2
                exact ⟨⟨q + 1, cutAt Y i, by omega, by go_num, by rw [HCL.out]; go_num, HY3, HAC, by rw [HCL.out]; omega, HB3⟩, by simp [intOf]; omega⟩
            · obtain rfl : q = gl := by omega
              have HRT := hide (right_asc.2 ⟨hY100, HAY.out⟩)
              go_wp2_with fail
              refine (haw _).mono ?_
              rintro e1 w1 ⟨rfl, hb1⟩
              have HY1 := hide (HY.out.below hb1)
              have HB1 := hide (kl_step hb1 HBY.out)
              clear hb1
              go_wp2_with fail
              refine (RightE_any w1 u5 Y HY1.out).mono ?_
              rintro e2 w2 ⟨rfl, hb2⟩
              rw [HRT.out]
              have HB2 := hide (kl_step hb2 HB1.out)
              clear hb2
              go_wp2
              go_ret
              exact ⟨rfl, HB2.out⟩
end Go.Proofs.Ytjmdinfdnjbcoaa
