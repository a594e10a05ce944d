/-
  PackTells: its walk.
-/
import Derived.Test.YtgkmgpjhpplkiaaPackTellsB1
import Derived.Test.YtgkmgpjhpplkiaaPackD
namespace Go.Proofs.Ytgkmgpjhpplkiaa
open Go.RowKit
set_option linter.unusedVariables false
set_option maxRecDepth 100000

theorem PackTells_open0 (w : World) : OpensN Try.prog w 22 (fun cs n => ∃ v xs, cs = [v] ∧ DRow w v xs ∧ wtL (xs.map Dv.d) + 1 ≤ n) := opensN_deeds w

set_option maxHeartbeats 8000000 in
theorem PackTells_walk (lv : Value) (ls : List Dv) (bv1 : Value) (xs : List Int) (w : World) (hl : DRow w lv ls) (hnl : wtL (ls.map Dv.d) + 1 ≤ 1048576) (w1 : IRow .u8 w bv1 xs) :
    Calls Try.prog 3 #[lv, bv1] w fun e w' => e = .returned (.bool true) ∧ Below w.heap.size w w' := by
  have h := w1.bytes
  have HAW := hide (fun w' => awake_any w')
  have HFW := hide (few_any w lv ls hl hnl)
  obtain ⟨ao, cap, hv⟩ := h.of_len
  have HB := hide h
  have HD := hide hl
  clear h w1 hnl hl
  subst hv
  by_cases h1 : sizL (ls.map Dv.d) ≤ 4000
  · rw [decide_eq_true h1] at HFW
    have HPl := hide (packL_few h1)
    by_cases hbig : 3000 < xs.length
    · have hbig' : (3000 : Int) < xs.length := by omega
      clear hbig h1
      go_enter Try.func3, Try.ntmps3
      go_wp2_with fail
      refine HFW.out.mono ?_
      rintro e w1 ⟨rfl, hb1⟩
      have HB1 := hide hb1
      clear hb1 HFW
      go_wp2_with fail
      refine (HAW.out w1).mono ?_
      rintro e w3 ⟨rfl, hb3⟩
      have HB3 := hide (kl_step hb3 HB1.out)
      go_wp2
      go_ret
      exact ⟨rfl, HB3.out⟩
    · have hbig' : (xs.length : Int) ≤ 3000 := by omega
      have HN := hide (show xs.length ≤ 3000 by omega)
      have HD4 := hide (fun w' (hb : Below w.heap.size w w') => Deeds_any w' lv ls (HD.out.below hb) (by have := HPl.out; omega))
      have HR4 := hide (fun w' (hb : Below w.heap.size w w') => RPack_any w' lv ls (HD.out.below hb) (by have := HPl.out; omega))
      generalize hpk : packL (ls.map Dv.d) = PK at *
      clear h1 hbig hpk
      go_enter Try.func3, Try.ntmps3
      go_wp2_with fail
      refine HFW.out.mono ?_
      rintro e w1 ⟨rfl, hb1⟩
      have HBw1 := hide hb1
      have HB1 := hide (HB.out.below hb1)
      clear hb1 HFW
      go_wp2_with fail
      refine (Own_any w1 _ xs 71 HB1.out (by have := HN.out; omega)).mono ?_
      rintro e w2 ⟨rfl, ho2, hb2⟩
      have hcut := owns_cut ho2 (n := xs.length) (by omega)
      rw [List.take_left' (bv_length xs)] at hcut
      have hrow : Row w2 (.slice (some ⟨w1.heap.size, 0, none⟩) xs.length (xs.length + 3)) xs := Own.row (base := w1.heap.size) ⟨hcut, HB1.out.bys⟩
      have HO2 := hide ho2
      have HI2 := hide hrow
      have HB2 := hide (HB1.out.below hb2)
      have HBw2 := hide (kl_step hb2 HBw1.out)
      have HC := hide (Parse_any w2 _ xs HI2.out (by have := HN.out; omega))
      obtain ⟨er, her⟩ : ∃ z, (parseS xs).2 = z := ⟨_, rfl⟩
      obtain ⟨pl, hpl⟩ : ∃ z, (parseS xs).1 = z := ⟨_, rfl⟩
      have HER := hide her
      have HPS := hide hpl
      clear ho2 hb2 hcut hrow HB1 HBw1 her hpl
      go_wp2_with fail
      refine HC.out.mono ?_
      rintro e w3 ⟨u3, ds3, rfl, hd3, hm3, hb3⟩
      rw [HPS.out] at hm3
      rw [HER.out]
      have HM3 := hide hm3
      have HD3 := hide hd3.row
      have HBw3 := hide (kl_step hb3 HBw2.out)
      have HB3 := hide (HB2.out.below hb3)
      have HO3 := hide (HO2.out.kept (row := none) ⟨hb3.os, hb3.tape, hb3.output, hb3.size, fun k hk _ => hb3.block k hk⟩ (Classical.em _))
      have HC2 := hide (Unpack_any w3 _ xs HB3.out (by have := HN.out; omega))
      clear hd3 hm3 hb3 HC HI2 HB2 HO2 HBw2
      go_wp2_with fail
      refine HC2.out.mono ?_
      rintro e w4 ⟨u4, ds4, rfl, hd4, hm4, hb4⟩
      rw [HPS.out] at hm4
      rw [HER.out]
      have HM4 := hide hm4
      have HD4' := hide hd4.row
      have HD34 := hide (HD3.out.below hb4)
      have HBw4 := hide (kl_step hb4 HBw3.out)
      have HB4 := hide (HB3.out.below hb4)
      have HO4 := hide (HO3.out.kept (row := none) ⟨hb4.os, hb4.tape, hb4.output, hb4.size, fun k hk _ => hb4.block k hk⟩ (Classical.em _))
      clear hd4 hm4 hb4 HC2 HD3 HBw3 HB3 HO3
      go_wp2_with fail
      refine (HAW.out w4).mono ?_
      rintro e w5 ⟨rfl, hb5⟩
      have HBw5 := hide (kl_step hb5 HBw4.out)
      have HK5 := hide hb5
      clear hb5
      go_wp2_with fail
      refine (HD4.out w5 HBw5.out).mono ?_
      rintro e w6 ⟨u6, rfl, ho6, hb6⟩
      have HBw6 := hide (kl_step hb6 HBw5.out)
      have HK6 := hide (HK5.out.trans (hb6.mono HK5.out.size))
      have HU6 := hide ho6.row
      clear ho6 hb6 HBw5 HK5 HD4
      go_wp2_with fail
      refine (HR4.out w6 HBw6.out).mono ?_
      rintro e w7 ⟨u7, rfl, ho7, hb7⟩
      have HBw7 := hide (kl_step hb7 HBw6.out)
      have HK7 := hide (HK6.out.trans (hb7.mono HK6.out.size))
      have HU7 := hide ho7.row
      have HU67 := hide (HU6.out.below hb7)
      clear ho7 hb7 HBw6 HK6 HR4 HU6
      go_wp2_with fail
      refine (Bytes_any w7 u6 u7 _ _ HU67.out HU7.out).mono ?_
      rintro e w8 ⟨rfl, rfl⟩
      have HC8 := hide (SameDs_any w8 u3 u4 ds3 ds4 (HD34.out.below HK7.out) (HD4'.out.below HK7.out))
      rw [HM3.out, HM4.out, sameL_refl] at HC8
      simp only [decide_true]
      go_wp2_with fail
      refine HC8.out.mono ?_
      rintro e w9 ⟨rfl, hb9⟩
      have HBw9 := hide (kl_step hb9 HBw7.out)
      have HK9 := hide (HK7.out.trans (hb9.mono HK7.out.size))
      clear hb9 HC8 HBw7 HK7 HU7 HU67
      have HB9 := hide (HB4.out.below HK9.out)
      have HO9 := hide (HO4.out.kept (row := none) ⟨HK9.out.os, HK9.out.tape, HK9.out.output, HK9.out.size, fun k hk _ => HK9.out.block k hk⟩ (Classical.em _))
      go_wp2_with fail
      refine (Kept_any w9 w1.heap.size w1.heap.size _ xs 71 (by omega) HB9.out (by have := HN.out; omega) HO9.out).mono ?_
      rintro e w10 ⟨rfl, hst10⟩
      have HBe := hide (kl_step (hst10 _) HBw9.out)
      go_wp2
      go_ret
      exact ⟨rfl, HBe.out⟩
  · rw [decide_eq_false h1] at HFW
    clear h1
    go_enter Try.func3, Try.ntmps3
    go_wp2_with fail
    refine HFW.out.mono ?_
    rintro e w1 ⟨rfl, hb1⟩
    have HB1 := hide hb1
    clear hb1 HFW
    go_wp2_with fail
    refine (HAW.out w1).mono ?_
    rintro e w3 ⟨rfl, hb3⟩
    have HB3 := hide (kl_step hb3 HB1.out)
    go_wp2
    go_ret
    exact ⟨rfl, HB3.out⟩
end Go.Proofs.Ytgkmgpjhpplkiaa
