/-
  The walk of garretlaw08.HalfCounts.
-/
import Derived.Test.YtgkgbbffgcmekaaHalfCountsP
import Derived.Test.YtgkgbbffgcmekaaSame2
import Derived.Test.YtgkgbbffgcmekaaGeoO
import Derived.Deep.CutBlock
import Derived.Deep.DeepCutAuto
namespace Go.Proofs.Ytgkgbbffgcmekaa
open Go.RowKit
set_option linter.unusedVariables false
set_option maxRecDepth 100000

theorem vown_new1 (w : World) (a : Option Addr) (n c : Nat) : VOwn w.heap.size (w.alloc (.cells #[.slice a n c] 38)) (.slice (some ⟨w.heap.size, 0, none⟩) 1 1) [.slice a n c] := by
  refine ⟨⟨rfl, .inr ⟨w.heap.size, 1, #[.slice a n c], rfl, Nat.le_refl _, Blk.new w _ _, Nat.le_refl _, by unfold maxLen; omega, rfl, rfl⟩⟩, ?_⟩
  intro u hu
  simp at hu
  exact ⟨_, _, _, hu⟩

set_option maxHeartbeats 2000000 in
theorem HalfCounts_walk (ga gb gc gd ge : Int) (av : Value) (a : List Int) (bv0 : Value) (b : List Int) (cut0 mask : Int) (w : World) (w0 : GeoOk ga gb gc gd ge) (w1 : IRow .u8 w av a) (w2 : IRow .u8 w bv0 b) (w3 : (Lit.int .i64 cut0).wf = true) (w4 : (Lit.int .u8 mask).wf = true) :
    Calls Try.prog 4 #[.agg (gcells ga gb gc gd ge), av, bv0, .int .i64 cut0, .int .u8 mask] w fun e w' => e = .returned (.bool true) ∧ Below w.heap.size w w' := by
  have ra := w1.bytes
  have rb := w2.bytes
  have hmk := wf_u8 w4
  clear w0 w1 w2
  have ham := ra.len
  have hbm := rb.len
  unfold maxLen at ham hbm
  obtain ⟨ao, acap, hav⟩ := ra.of_len
  obtain ⟨bo, bcap, hbv⟩ := rb.of_len
  subst hav hbv
  have HRA := hide ra
  have HRB := hide rb
  clear ra rb
  have hplay := fun w => play_any w ga gb gc gd ge
  have hB0 : Below w.heap.size w (w.alloc (.cells (gcells ga gb gc gd ge) 23)) := (Below.refl _ _).alloc (Nat.le_refl _) _
  have hG0 : Blk (w.alloc (.cells (gcells ga gb gc gd ge) 23)) w.heap.size (gcells ga gb gc gd ge) 23 := Blk.new w _ _
  generalize hLA : a.length = la at *
  generalize hLB : b.length = lb at *
  have HLA := hide hLA
  have HLB := hide hLB
  clear hLA hLB
  by_cases hbig : la > 60 ∨ lb > 60
  · by_cases h1 : (60 : Int) < la
    · go_enter Try.func4, Try.ntmps4
      go_wp2_with fail
      refine (awake_any _).mono ?_
      rintro e w4 ⟨rfl, hb4⟩
      go_wp2
      go_ret
      exact ⟨rfl, hB0.trans (hb4.mono (by simp))⟩
    · have h2 : (60 : Int) < lb := by omega
      go_enter Try.func4, Try.ntmps4
      go_wp2_with fail
      refine (awake_any _).mono ?_
      rintro e w4 ⟨rfl, hb4⟩
      go_wp2
      go_ret
      exact ⟨rfl, hB0.trans (hb4.mono (by simp))⟩
  · have hla : la ≤ 60 := by omega
    have hlb : lb ≤ 60 := by omega
    have hla' : ¬ ((60 : Int) < la) := by omega
    have hlb' : ¬ ((60 : Int) < lb) := by omega
    clear hbig ham hbm
    unfold gcells at hplay hB0 hG0 ⊢
    go_enter Try.func4, Try.ntmps4
    go_wp2_with fail
    generalize hW1 : w.alloc (.cells #[.int .i64 ga, .int .i64 gb, .int .i64 gc, .int .i64 gd, .int .i64 ge] 23) = W1 at *
    clear hW1
    refine (hplay _).mono ?_
    rintro e W2 ⟨A, B, hc, hd, he, rfl, hr, hb2⟩
    have hs1 := hG0.lt
    have hB2 := hB0.trans (hb2.mono (by omega))
    have hG2 := hG0.below hb2 hG0.lt
    clear hb2 hB0 hG0 hplay
    have c0 := hG2.cell 0
    have c1 := hG2.cell 1
    have c2 := hG2.cell 2
    have c3 := hG2.cell 3
    have c4 := hG2.cell 4
    have f0 := hG2.frozen 0
    have f1 := hG2.frozen 1
    have f2 := hG2.frozen 2
    have f3 := hG2.frozen 3
    have f4 := hG2.frozen 4
    simp at c0 c1 c2 c3 c4
    have hG3 := ((((hG2.set 0 (.int .i64 A)).set 1 (.int .i64 B)).set 2 (.int .i64 hc)).set 3 (.int .i64 hd)).set 4 (.int .i64 he)
    have hB3 : Below w.heap.size w (((((W2.setCell ⟨w.heap.size, 0, none⟩ (.int .i64 A)).setCell ⟨w.heap.size, 1, none⟩ (.int .i64 B)).setCell ⟨w.heap.size, 2, none⟩ (.int .i64 hc)).setCell ⟨w.heap.size, 3, none⟩ (.int .i64 hd)).setCell ⟨w.heap.size, 4, none⟩ (.int .i64 he)) := ((((hB2.setCell (Nat.le_refl _) _).setCell (Nat.le_refl _) _).setCell (Nat.le_refl _) _).setCell (Nat.le_refl _) _).setCell (Nat.le_refl _) _
    go_wp2_with fail
    generalize hW3 : ((((W2.setCell ⟨w.heap.size, 0, none⟩ (.int .i64 A)).setCell ⟨w.heap.size, 1, none⟩ (.int .i64 B)).setCell ⟨w.heap.size, 2, none⟩ (.int .i64 hc)).setCell ⟨w.heap.size, 3, none⟩ (.int .i64 hd)).setCell ⟨w.heap.size, 4, none⟩ (.int .i64 he) = W3 at *
    clear hW3 c0 c1 c2 c3 c4 f0 f1 f2 f3 f4 hG2 hB2
    have hs3lt := hG3.lt
    refine (New_any _).mono ?_
    rintro e W4 ⟨rfl, hw4⟩
    have hb34 : Below W3.heap.size W3 W4 := by rw [hw4]; exact kl_alloc _ _
    have hG4 := hG3.below hb34 hs3lt
    have c0 := hG4.cell 0
    have c1 := hG4.cell 1
    have c2 := hG4.cell 2
    have c3 := hG4.cell 3
    have c4 := hG4.cell 4
    simp at c0 c1 c2 c3 c4
    have HW4 := hide hw4
    clear hw4 hG4
    have hnn := NewNor_right W4 A B hc hd he (some ⟨W3.heap.size, 0, none⟩) hr
    unfold gcells at hnn
    go_wp2_with fail
    refine hnn.mono ?_
    rintro e W5 ⟨k17, bb17, eb17, rfl, hm17⟩
    have hK := hm17.kept (Below.refl _ W3) HW4.out
    have ok := NSt.new_ok hr 0
    have hrg := RightG.new hr
    have hbig := halfZ_big ok
    have HBS : Hid ((NSt.new A B hc hd he).bs = List.replicate (A * B) 255) := rfl
    have HAB : Hid ((NSt.new A B hc hd he).A * (NSt.new A B hc hd he).B = A * B) := rfl
    clear hm17 hnn hb34 c0 c1 c2 c3 c4 HW4
    generalize hL : (⟨k17, W3.heap.size, bb17, eb17⟩ : Lay) = L at *
    obtain rfl : k17 = L.c := by rw [← hL]
    have hpb : W3.heap.size = L.pb := by rw [← hL]
    clear hL
    generalize hbase : W5.heap.size = base at *
    generalize NSt.new A B hc hd he = N at *
    obtain ⟨nn, hnn⟩ : ∃ nn : Nat, nn = lb + 7 := ⟨_, rfl⟩
    obtain ⟨ma, hma⟩ : ∃ ma : Nat, ma = la + 7 := ⟨_, rfl⟩
    obtain ⟨cut, hcut, hcq⟩ := cut_n cut0 (nn + 5) (by omega) (by omega)
    rw [show ((nn + 5 : Nat) : Int) = (nn : Int) + 5 from by omega] at hcq
    have hu5 : IntKind.u64.wrap ((nn : Int) + 5) = (nn : Int) + 5 := by rw [IntKind.wrap_u64]; omega
    have hz5 : ((nn : Int) + 5 == 0) = false := by simp; omega
    obtain ⟨S1, bs1, x, S2, bs2, ws, m, p1, p2, hx, hfd, hws⟩ := counts_plain ok (M := A * B) HBS.out (by rw [← HAB.out]; exact hbig.2.2) a b (by rw [HLA.out]; exact hla) (by rw [HLB.out]; exact hlb) HRA.out.bys HRB.out.bys cut mask hmk
    rw [HLA.out] at p2
    rw [HLB.out] at hx hws
    rw [← hma] at p2
    rw [← hnn] at hx hws
    have o1 := appH_ok (h := 0) (q := 0) (PSt.zero_ok 0) ok HRA.out.bys
    rw [p1, HLA.out] at o1
    have okS1c : (S1.cut cut mask).Ok 200 := (o1.1.more (by omega)).cut (wf_i64 (by omega) (by omega)) w4
    have ok1 : NSt.Ok { N with bs := bs1 } 200 := o1.2.more (by omega)
    have o2 := appH_ok (h := 0) (q := (ma : Int)) okS1c ok1 HRB.out.bys
    simp only at o2
    rw [p2, HLB.out] at o2
    have okS2 : S2.on.Ok 400 := (o2.1.more (by omega)).on
    have ok2 : NSt.Ok { N with bs := bs2 } 400 := o2.2.more (by omega)
    have hrdH : readH { N with bs := bs2 } 0 = (0, part bs2 0 (halfZ N)) := readH_part (H := 0) ok2 (by omega)
    have hpl : (part bs2 0 (halfZ N)).length = halfZ N := part_length (part_fits (H := 0) ok2 (by omega))
    have hcases : (nn ≤ cut ∧ x = 0 ∧ ws = [a, b]) ∨ (cut < nn ∧ cut + 1 = nn ∧ mask = 0 ∧ x = 6 ∧ ws = [a, b]) ∨ (cut < nn ∧ cut + 1 = nn ∧ mask ≠ 0 ∧ x = 6 ∧ ws = [a]) ∨ (cut < nn ∧ cut + 1 ≠ nn ∧ x = 6 ∧ ws = [a]) := by
      rcases hx with ⟨h1, h2⟩ | ⟨h1, h2⟩ <;> rcases hws with ⟨h3, h4⟩ | ⟨⟨h3, h5⟩, h4⟩
      · exact .inl ⟨h1, h2, h4⟩
      · omega
      · rcases h3 with h3 | h3
        · omega
        · exact .inr (.inl ⟨h1, by omega, h3.2, h2, h4⟩)
      · by_cases he : cut + 1 = nn
        · exact .inr (.inr (.inl ⟨h1, he, fun e => h5 ⟨by omega, e⟩, h2, h4⟩))
        · exact .inr (.inr (.inr ⟨h1, he, h2, h4⟩))
    have HP1 := hide p1
    have HP2 := hide p2
    have HCA := hide hcases
    have HFD := hide hfd
    have HOK := hide ok
    have HRG := hide hrg
    have HRD := hide hrdH
    have HPL := hide hpl
    have HS1 := hide okS1c
    have HO1 := hide ok1
    have HS2 := hide okS2
    have HO2 := hide ok2
    have HZB := hide hbig
    have HNN := hide hnn
    have HMA := hide hma
    have hnl : nn ≤ 67 := by omega
    have hnl2 : 7 ≤ nn := by omega
    have hml : ma ≤ 67 := by omega
    have hpa0 : Own base W5 (.slice none 0 0) [] := Own.nil _ _
    clear p1 p2 hcases hfd ok hrg hrdH hpl okS1c ok1 okS2 ok2 o1 o2 hx hws hr hbig hnn hma hpa0
    rw [hpb]
    go_wp2_with fail
    refine (awake_any _).mono ?_
    rintro e w4 ⟨rfl, hb4⟩
    have hK4 := hK.below' hb4
    have happ := HAppend_any base w4 L PSt.zero N 0 hK4.dev (PSt.zero_ok 0) HOK.out HRG.out (by omega) hK4.size 0 0 (by decide) (.slice ao la acap) a ((HRA.out.below hB3).below (hK4.below))
    rw [HP1.out] at happ
    clear hb4 hK
    go_wp2_with fail
    refine happ.mono ?_
    rintro e w5 ⟨rfl, hD5, hO5⟩
    have hK5 := hK4.turn hD5 (hO5.wide (by simp))
    clear happ hD5 hO5 hK4
    have hsz1 := Size_any w5 lb (by omega)
    rw [show (lb : Int) + 7 = (nn : Int) by have := HNN.out; omega] at hsz1
    go_wp2_with fail
    refine hsz1.mono ?_
    rintro e w6 ⟨rfl, rfl⟩
    have hct := CutN_any base w6 L.pb S1 cut mask hK5.dev.1
    go_wp2_with fail
    refine hct.mono ?_
    rintro e w7 ⟨rfl, hP7, hg7⟩
    have hK7 := hK5.pow hP7 hg7
    clear hct hP7 hg7 hK5
    have hsz2 := Size_any w7 la (by omega)
    rw [show (la : Int) + 7 = (ma : Int) by have := HMA.out; omega] at hsz2
    go_wp2_with fail
    refine hsz2.mono ?_
    rintro e w8 ⟨rfl, rfl⟩
    have happ := HAppend_any base w8 L (S1.cut cut mask) { N with bs := bs1 } 200 hK7.dev HS1.out HO1.out HRG.out (by omega) hK7.size 0 (ma : Int) (wf_i64 (by omega) (by omega)) (.slice bo lb bcap) b ((HRB.out.below hB3).below (hK7.below))
    rw [HP2.out] at happ
    simp only at happ
    clear hsz2 hsz1
    go_wp2_with fail
    refine happ.mono ?_
    rintro e w9 ⟨rfl, hD9, hO9⟩
    have hK9 := hK7.turn hD9 (hO9.wide (by simp))
    clear happ hD9 hO9 hK7
    have hon := OnN_any base w9 L.pb S2 hK9.dev.1
    go_wp2_with fail
    refine hon.mono ?_
    rintro e w10 ⟨rfl, hP10, hg10⟩
    have hK10 := hK9.pow hP10 hg10
    clear hon hP10 hg10 hK9
    have hrd := HRead_any base w10 L { N with bs := bs2 } 400 hK10.dev.2 HO2.out HRG.out 0
    rw [HRD.out] at hrd
    simp only at hrd
    go_wp2_with fail
    refine hrd.mono ?_
    rintro e w11 ⟨v11, rfl, hown11, hb11⟩
    have hK11 := hK10.below' hb11
    have hsc := Scan_known hown11.row (by rw [HPL.out]; have := HZB.out; omega) HFD.out
    obtain ⟨xo, xcap, rfl⟩ := hown11.row.of_len
    clear hrd hb11 hK10 hown11
    obtain ⟨cl, hcl⟩ : ∃ z, clean ((part bs2 0 (halfZ N)).drop m) = z := ⟨_, rfl⟩
    rw [hcl] at hsc
    clear hcl
    go_wp2_with fail
    refine hsc.mono ?_
    rintro e w12 ⟨u12, us, rfl, hv12, ho12, hb12⟩
    have hK12 := hK11.below' hb12
    have HV12 := hide hv12
    have HO12 := hide ho12
    obtain ⟨uo, ucap, rfl⟩ := hv12.vals.of_len
    clear hsc hb12 hK11 hv12 ho12
    have hvr12 : VRow w12 (.slice uo us.length ucap) ws := ⟨us, HV12.out.vals, HO12.out.rows⟩
    have hsame : ∀ wE vE, Below w12.heap.size w12 wE → VRow wE vE ws → Calls Try.prog 27 #[.slice uo us.length ucap, vE, .func (.func 24) #[] #[]] wE fun e w' => e = .returned (.bool true) ∧ Still wE w' := fun wE vE hb hv => by
      have := Same2_any wE (.slice uo us.length ucap) vE ws ws (hvr12.below hb) hv
      rwa [decide_eq_true rfl] at this
    have HSAME := hide hsame
    have hend : ∀ wE, Below w12.heap.size w12 wE → Below w.heap.size w wE := fun wE hb => hB3.trans ((hK12.below.trans (hb.mono (Nat.le_trans (by have := hK12.lo.1; have := hK12.dev.2.lt.1; omega) hK12.size))).mono (by omega))
    have HEND := hide hend
    have HRA12 := hide ((HRA.out.below hB3).below hK12.below)
    have HRB12 := hide ((HRB.out.below hB3).below hK12.below)
    have hsz12 : w12.heap.size ≤ 0 + w12.heap.size := by omega
    clear hvr12 hsame hend hK12 HV12 HO12 hsz12
    have hb13 := kl_alloc w12 (.cells #[.slice ao la acap] 38)
    have hv13 := vown_new1 w12 ao la acap
    have hone : VRow (w12.alloc (.cells #[.slice ao la acap] 38)) (.slice (some ⟨w12.heap.size, 0, none⟩) 1 1) [a] := ⟨[.slice ao la acap], vals_new1 w12 (.slice ao la acap), Rows.one (HRA12.out.below hb13)⟩
    go_upto_region 16 with fail
    generalize hW13 : w12.alloc (.cells #[.slice ao la acap] 38) = w13 at *
    obtain ⟨g13, hg13⟩ : ∃ g, w12.heap.size = g := ⟨_, rfl⟩
    rw [hg13] at hv13 hone ⊢
    have HB13 := hide hb13
    have HV13 := hide hv13
    have HONE := hide hone
    have HG13 := hide hg13
    clear hW13 hv13 hone hg13 hb13
    rcases HCA.out with ⟨h1, rfl, rfl⟩ | ⟨h1, h2, rfl, rfl, rfl⟩ | ⟨h1, h2, h3, rfl, rfl⟩ | ⟨h1, h2, rfl, rfl⟩
    case' inl => have hq0 : (nn : Int) ≤ (cut : Int) := by omega
    case' inr.inl =>
      have hq0 : ¬ ((nn : Int) ≤ (cut : Int)) := by omega
      have hq1 : ((cut : Int) == (nn : Int) - 1) = true := by simp; omega
    case' inr.inr.inl =>
      have hq0 : ¬ ((nn : Int) ≤ (cut : Int)) := by omega
      have hq1 : ((cut : Int) == (nn : Int) - 1) = true := by simp; omega
      have hq2 : (mask == 0) = false := by simpa using h3
      clear h3 h2 h1
    case' inr.inr.inr =>
      have hq0 : ¬ ((nn : Int) ≤ (cut : Int)) := by omega
      have hq1 : ((cut : Int) == (nn : Int) - 1) = false := by simp; omega
      clear h2 h1
    case inr.inr.inl =>
      have hs13 := HSAME.out _ _ HB13.out HONE.out
      go_wp2_with fail
      refine hs13.mono ?_
      rintro e w14 ⟨rfl, hst⟩
      have hF := HEND.out _ (HB13.out.trans ((hst _).mono HB13.out.size))
      go_wp2
      go_ret
      exact ⟨rfl, hF⟩
    case inr.inr.inr =>
      have hs13 := HSAME.out _ _ HB13.out HONE.out
      go_wp2_with fail
      refine hs13.mono ?_
      rintro e w14 ⟨rfl, hst⟩
      have hF := HEND.out _ (HB13.out.trans ((hst _).mono HB13.out.size))
      go_wp2
      go_ret
      exact ⟨rfl, hF⟩
    all_goals
      have hb14 := HB13.out.alloc HB13.out.size (.cells #[.slice bo lb bcap] 38)
      have HV14 := hide (HV13.out.alloc (.cells #[.slice bo lb bcap] 38))
      have HN14 := hide (vals_new1 w13 (.slice bo lb bcap))
      go_wp2_with (at_builtin; refine wpList_append_vals rfl _ _ rfl g13 _ _ [.slice ao la acap] [.slice bo lb bcap] rfl HV14.out rfl HN14.out (by intro u hu; simp at hu; exact ⟨_, _, _, hu⟩) (by simp) (by have := hb14.size; have := HG13.out; omega) ?_)
      intro v15 w15 hv15 hg15
      have hb15 : Below w12.heap.size w12 w15 := HV14.out.grown_below hb14 hg15 (by rw [HG13.out]; exact Nat.le_refl _) hb14.size
      have hs15 := HSAME.out _ v15 hb15 ⟨_, hv15.vals, (Rows.one (HRA12.out.below hb15)).app (Rows.one (HRB12.out.below hb15))⟩
      clear hv15 hg15 hb14 HV14 HN14
      go_wp2_with fail
      refine hs15.mono ?_
      rintro e w16 ⟨rfl, hst⟩
      have hF := HEND.out _ (hb15.trans ((hst _).mono hb15.size))
      go_wp2
      go_ret
      first
        | exact ⟨rfl, hF⟩
        | exact ⟨ret_one (congrArg Value.bool (by simp; omega)), hF⟩
end Go.Proofs.Ytgkgbbffgcmekaa
