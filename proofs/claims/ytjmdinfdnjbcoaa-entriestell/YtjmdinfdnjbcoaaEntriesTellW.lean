/-
  The walk of EntriesTell.
-/
import Derived.Test.YtjmdinfdnjbcoaaAwake11
import Derived.Test.YtjmdinfdnjbcoaaEntV
import Derived.Test.YtjmdinfdnjbcoaaEntW
import Derived.Test.YtjmdinfdnjbcoaaEntX
namespace Go.Proofs.Ytjmdinfdnjbcoaa
open Go.RowKit
set_option linter.unusedVariables false
set_option linter.unusedSimpArgs false
set_option maxRecDepth 100000

set_option maxHeartbeats 8000000 in
theorem EntriesTell_walk (lv : Value) (l : List En) (s : ByteArray) (n : Int) (nm : ByteArray) (w : World) (hl : ERow w lv l) (he : (⟨s, n⟩ : En).Wf) (hnm : nm.size ≤ maxLen) :
    Calls Try.prog 3 #[lv, .agg #[.string s, .int .i64 n], .string nm] w fun e w' => e = .returned (.bool true) ∧ Below w.heap.size w w' := by
  have hlr := hl.lenRun
  have hlm := hl.len
  unfold maxLen at hlm
  obtain ⟨w0, hw0⟩ : ∃ W, W = w.alloc (.cells #[.string s, .int .i64 n] 24) := ⟨_, rfl⟩
  have hb0 : Below w.heap.size w w0 := by rw [hw0]; exact kl_alloc w _
  have hbl : Blk w0 w.heap.size #[.string s, .int .i64 n] 24 := by rw [hw0]; exact Blk.new w _ _
  have HL0 := hide (hl.below hb0)
  have HBL0 := hide hbl
  have HB0 := hide hb0
  have HE := hide he
  have HNM := hide hnm
  have haw := fun W => awake_any W
  unfold maxLen at hnm
  obtain ⟨len, hL⟩ : ∃ n, l.length = n := ⟨_, rfl⟩
  have HLen := hide hL
  simp only [hL] at hlr
  rw [hL] at hlm
  clear hL hl hb0 hbl he
  by_cases h200 : 200 < len
  · have h2' : (200 : Int) < len := by omega
    go_enter Try.func3, Try.ntmps3
    go_wp2_with fail
    rw [← hw0]
    refine (haw _).mono ?_
    rintro e w1 ⟨rfl, hb1⟩
    have hB1 := kl_step hb1 HB0.out
    clear hb1 hw0
    go_wp2
    go_ret
    exact ⟨rfl, hB1⟩
  · have h2' : ¬ (200 : Int) < len := by omega
    have HZ : Hid (l.length ≤ 1000000) := by have := HLen.out; exact hide (by omega)
    have hown := OwnE_any w0 lv l ⟨#[]⟩ 71 HL0.out HZ.out
    rw [HLen.out] at hown
    go_enter Try.func3, Try.ntmps3
    go_wp2_with fail
    rw [← hw0]
    clear hw0
    refine hown.mono ?_
    rintro e1 w1 ⟨g, hg, rfl, hf1, hb1⟩
    have HF1 := hide hf1
    have HL1 := hide (HL0.out.below hb1)
    have HBL1 := hide (kl_blk hb1 HBL0.out)
    have HB1 := hide (kl_step hb1 HB0.out)
    have HI1 : Hid (ERow w1 (.slice (some ⟨g, 0, none⟩) len (len + 3)) l) := by
      have := hf1.row HZ.out HL0.out.2
      rw [HLen.out] at this
      exact hide this
    obtain ⟨IN, hIN⟩ : ∃ v : Value, v = .slice (some ⟨g, 0, none⟩) len (len + 3) := ⟨_, rfl⟩
    rw [← hIN] at HI1 ⊢
    have HIN := hide hIN
    clear hIN hown hf1 hb1 hg HL0 HBL0 HB0
    have c0 : w1.cell? ⟨w.heap.size, 0, none⟩ = some (.string s) := HBL1.out.cell 0
    have c1 : w1.cell? ⟨w.heap.size, 1, none⟩ = some (.int .i64 n) := HBL1.out.cell 1
    go_wp2_with fail
    refine (Add_any w1 IN l s n HI1.out HZ.out HE.out).mono ?_
    rintro e2 w2 ⟨a, rfl, hoa, hb2⟩
    have HF2 := hide (HF1.out.below hb2)
    have HL2 := hide (HL1.out.below hb2)
    have HI2 := hide (HI1.out.below hb2)
    have HBL2 := hide (kl_blk hb2 HBL1.out)
    have HB2 := hide (kl_step hb2 HB1.out)
    have HA2 := hide hoa.row
    clear hoa hb2 HF1 HL1 HI1 HBL1 HB1 c0 c1
    have c0 : w2.cell? ⟨w.heap.size, 0, none⟩ = some (.string s) := HBL2.out.cell 0
    have c1 : w2.cell? ⟨w.heap.size, 1, none⟩ = some (.int .i64 n) := HBL2.out.cell 1
    go_wp2_with fail
    refine (RAdd_any w2 lv l s n HL2.out HZ.out HE.out).mono ?_
    rintro e3 w3 ⟨b, rfl, hob, hb3⟩
    have HF3 := hide (HF2.out.below hb3)
    have HL3 := hide (HL2.out.below hb3)
    have HI3 := hide (HI2.out.below hb3)
    have HB3 := hide (kl_step hb3 HB2.out)
    have HA3 := hide (HA2.out.below hb3)
    have HAB3 := hide hob.row
    generalize addS l ⟨s, n⟩ = AD at *
    obtain ⟨AD1, AD2⟩ := AD
    clear hob hb3 HF2 HL2 HI2 HBL2 HB2 HA2 c0 c1
    go_wp2_with fail
    refine (Remove_any w3 IN l HI3.out HZ.out nm HNM.out).mono ?_
    rintro e4 w4 ⟨c, rfl, hoc, hb4⟩
    have HF4 := hide (HF3.out.below hb4)
    have HL4 := hide (HL3.out.below hb4)
    have HI4 := hide (HI3.out.below hb4)
    have HB4 := hide (kl_step hb4 HB3.out)
    have HA4 := hide (HA3.out.below hb4)
    have HAB4 := hide (HAB3.out.below hb4)
    have HC4 := hide hoc.row
    clear hoc hb4 HF3 HL3 HI3 HB3 HA3 HAB3
    go_wp2_with fail
    refine (RRemove_any w4 lv l HL4.out HZ.out nm).mono ?_
    rintro e5 w5 ⟨d, rfl, hod, hb5⟩
    have HF5 := hide (HF4.out.below hb5)
    have HL5 := hide (HL4.out.below hb5)
    have HI5 := hide (HI4.out.below hb5)
    have HB5 := hide (kl_step hb5 HB4.out)
    have HA5 := hide (HA4.out.below hb5)
    have HAB5 := hide (HAB4.out.below hb5)
    have HC5 := hide (HC4.out.below hb5)
    have HD5 := hide hod.row
    generalize remS l (bl nm) = RM at *
    obtain ⟨RM1, RM2⟩ := RM
    clear hod hb5 HF4 HL4 HI4 HB4 HA4 HAB4 HC4
    go_wp2_with fail
    refine (Find_any w5 IN l HI5.out HZ.out nm HNM.out).mono ?_
    rintro e6 w6 ⟨rfl, hb6⟩
    have HF6 := hide (HF5.out.below hb6)
    have HL6 := hide (HL5.out.below hb6)
    have HI6 := hide (HI5.out.below hb6)
    have HB6 := hide (kl_step hb6 HB5.out)
    have HA6 := hide (HA5.out.below hb6)
    have HAB6 := hide (HAB5.out.below hb6)
    have HC6 := hide (HC5.out.below hb6)
    have HD6 := hide (HD5.out.below hb6)
    clear hb6 HF5 HL5 HI5 HB5 HA5 HAB5 HC5 HD5
    go_wp2_with fail
    refine (RFind_any w6 lv l HL6.out nm).mono ?_
    rintro e7 w7 ⟨rfl, hw7⟩
    obtain rfl : w6 = w7 := hw7.symm
    generalize findS l (bl nm) = FD at *
    obtain ⟨FD1, FD2⟩ := FD
    clear hw7
    go_wp2_with fail
    refine (haw _).mono ?_
    rintro e8 w8 ⟨rfl, hb8⟩
    have HF8 := hide (HF6.out.below hb8)
    have HL8 := hide (HL6.out.below hb8)
    have HI8 := hide (HI6.out.below hb8)
    have HB8 := hide (kl_step hb8 HB6.out)
    have HA8 := hide (HA6.out.below hb8)
    have HAB8 := hide (HAB6.out.below hb8)
    have HC8 := hide (HC6.out.below hb8)
    have HD8 := hide (HD6.out.below hb8)
    clear hb8 HF6 HL6 HI6 HB6 HA6 HAB6 HC6 HD6
    go_wp2_with fail
    refine (RightE_any w8 IN l HI8.out).mono ?_
    rintro e9 w9 ⟨rfl, hb9⟩
    have HF9 := hide (HF8.out.below hb9)
    have HL9 := hide (HL8.out.below hb9)
    have HB9 := hide (kl_step hb9 HB8.out)
    have HA9 := hide (HA8.out.below hb9)
    have HAB9 := hide (HAB8.out.below hb9)
    have HC9 := hide (HC8.out.below hb9)
    have HD9 := hide (HD8.out.below hb9)
    clear hb9 HF8 HL8 HI8 HB8 HA8 HAB8 HC8 HD8
    go_wp2_with fail
    refine (RRightE_any w9 lv l HL9.out).mono ?_
    rintro e10 w10 ⟨rfl, hb10⟩
    have HF10 := hide (HF9.out.below hb10)
    have HL10 := hide (HL9.out.below hb10)
    have HB10 := hide (kl_step hb10 HB9.out)
    have HA10 := hide (HA9.out.below hb10)
    have HAB10 := hide (HAB9.out.below hb10)
    have HC10 := hide (HC9.out.below hb10)
    have HD10 := hide (HD9.out.below hb10)
    clear hb10 HF9 HL9 HB9 HA9 HAB9 HC9 HD9
    generalize rightE l = RE at *
    have hp1 := PlainE_any w10 a b AD1 AD1 HA10.out HAB10.out
    rw [decide_eq_true rfl] at hp1
    go_wp2_with fail
    refine hp1.mono ?_
    rintro e11 w11 ⟨rfl, hb11⟩
    have HF11 := hide (HF10.out.below hb11)
    have HL11 := hide (HL10.out.below hb11)
    have HB11 := hide (kl_step hb11 HB10.out)
    have HC11 := hide (HC10.out.below hb11)
    have HD11 := hide (HD10.out.below hb11)
    clear hb11 hp1 HF10 HL10 HB10 HA10 HAB10 HC10 HD10
    have hp2 := PlainE_any w11 c d RM1 RM1 HC11.out HD11.out
    rw [decide_eq_true rfl] at hp2
    go_wp2_with fail
    refine hp2.mono ?_
    rintro e12 w12 ⟨rfl, hb12⟩
    have HF12 := hide (HF11.out.below hb12)
    have HL12 := hide (HL11.out.below hb12)
    have HB12 := hide (kl_step hb12 HB11.out)
    clear hb12 hp2 HF11 HL11 HB11 HC11 HD11
    have hkp := KeptE_any w12 g lv l ⟨#[]⟩ 71 HF12.out HL12.out HZ.out
    rw [HLen.out, ← HIN.out] at hkp
    go_wp2_with fail
    refine hkp.mono ?_
    rintro e13 w13 ⟨rfl, hb13⟩
    have HB13 := hide (kl_step hb13 HB12.out)
    clear hb13 hkp
    go_wp2
    go_ret
    exact ⟨rfl, HB13.out⟩
end Go.Proofs.Ytjmdinfdnjbcoaa
