/-
  The walk of garretlaw08.HalfWipes.
-/
import Derived.Test.YtgkgbbffgcmekaaHalfWipesP
import Derived.Test.YtgkgbbffgcmekaaHelp
import Derived.Test.YtgkgbbffgcmekaaGeoO
import Derived.Deep.CutBlock
import Derived.Deep.DeepCutAuto
namespace Go.Proofs.Ytgkgbbffgcmekaa
open Go.RowKit
set_option linter.unusedVariables false
set_option maxRecDepth 100000

set_option maxHeartbeats 2000000 in
theorem HalfWipes_walk (ga gb gc gd ge h0 : Int) (av : Value) (a : List Int) (bv0 : Value) (b : List Int) (cut0 mask : Int) (w : World) (w0 : GeoOk ga gb gc gd ge) (wh : (Lit.int .i64 h0).wf = true) (w1 : IRow .u8 w av a) (w2 : IRow .u8 w bv0 b) (w3 : (Lit.int .i64 cut0).wf = true) (w4 : (Lit.int .u8 mask).wf = true) :
    Calls Try.prog 6 #[.agg (gcells ga gb gc gd ge), .int .i64 h0, av, bv0, .int .i64 cut0, .int .u8 mask] w fun e w' => e = .returned (.bool true) ∧ Below w.heap.size w w' := by
  have ra := w1.bytes
  have rb := w2.bytes
  have hmk := wf_u8 w4
  clear w0 w1 w2
  obtain ⟨H, hH, hHq⟩ := cut_n h0 2 (by omega) (by omega)
  rw [show ((2 : Nat) : Int) = 2 from rfl] at hHq
  have ham := ra.len
  have hbm := rb.len
  unfold maxLen at ham hbm
  obtain ⟨ao, acap, hav⟩ := ra.of_len
  obtain ⟨bo, bcap, hbv⟩ := rb.of_len
  subst hav hbv
  have HRA := hide ra
  have HRB := hide rb
  clear ra rb
  have hplay := fun w => play_any w ga gb gc gd ge
  have hB0 : Below w.heap.size w (w.alloc (.cells (gcells ga gb gc gd ge) 23)) := (Below.refl _ _).alloc (Nat.le_refl _) _
  have hG0 : Blk (w.alloc (.cells (gcells ga gb gc gd ge) 23)) w.heap.size (gcells ga gb gc gd ge) 23 := Blk.new w _ _
  generalize hLA : a.length = la at *
  generalize hLB : b.length = lb at *
  have HLA := hide hLA
  have HLB := hide hLB
  clear hLA hLB
  by_cases hbig : la > 100 ∨ lb > 100
  · by_cases h1 : (100 : Int) < la
    · go_enter Try.func6, Try.ntmps6
      go_wp2_with fail
      refine (awake_any _).mono ?_
      rintro e w4 ⟨rfl, hb4⟩
      go_wp2
      go_ret
      exact ⟨rfl, hB0.trans (hb4.mono (by simp))⟩
    · have h2 : (100 : Int) < lb := by omega
      go_enter Try.func6, Try.ntmps6
      go_wp2_with fail
      refine (awake_any _).mono ?_
      rintro e w4 ⟨rfl, hb4⟩
      go_wp2
      go_ret
      exact ⟨rfl, hB0.trans (hb4.mono (by simp))⟩
  · have hla : la ≤ 100 := by omega
    have hlb : lb ≤ 100 := by omega
    have hla' : ¬ ((100 : Int) < la) := by omega
    have hlb' : ¬ ((100 : Int) < lb) := by omega
    clear hbig ham hbm
    unfold gcells at hplay hB0 hG0 ⊢
    go_enter Try.func6, Try.ntmps6
    go_wp2_with fail
    generalize hW1 : w.alloc (.cells #[.int .i64 ga, .int .i64 gb, .int .i64 gc, .int .i64 gd, .int .i64 ge] 23) = W1 at *
    clear hW1
    refine (hplay _).mono ?_
    rintro e W2 ⟨A, B, hc, hd, he, rfl, hr, hb2⟩
    have hs1 := hG0.lt
    have hB2 := hB0.trans (hb2.mono (by omega))
    have hG2 := hG0.below hb2 hG0.lt
    clear hb2 hB0 hG0 hplay
    have c0 := hG2.cell 0
    have c1 := hG2.cell 1
    have c2 := hG2.cell 2
    have c3 := hG2.cell 3
    have c4 := hG2.cell 4
    have f0 := hG2.frozen 0
    have f1 := hG2.frozen 1
    have f2 := hG2.frozen 2
    have f3 := hG2.frozen 3
    have f4 := hG2.frozen 4
    simp at c0 c1 c2 c3 c4
    have hG3 := ((((hG2.set 0 (.int .i64 A)).set 1 (.int .i64 B)).set 2 (.int .i64 hc)).set 3 (.int .i64 hd)).set 4 (.int .i64 he)
    have hB3 : Below w.heap.size w (((((W2.setCell ⟨w.heap.size, 0, none⟩ (.int .i64 A)).setCell ⟨w.heap.size, 1, none⟩ (.int .i64 B)).setCell ⟨w.heap.size, 2, none⟩ (.int .i64 hc)).setCell ⟨w.heap.size, 3, none⟩ (.int .i64 hd)).setCell ⟨w.heap.size, 4, none⟩ (.int .i64 he)) := ((((hB2.setCell (Nat.le_refl _) _).setCell (Nat.le_refl _) _).setCell (Nat.le_refl _) _).setCell (Nat.le_refl _) _).setCell (Nat.le_refl _) _
    go_wp2_with fail
    generalize hW3 : ((((W2.setCell ⟨w.heap.size, 0, none⟩ (.int .i64 A)).setCell ⟨w.heap.size, 1, none⟩ (.int .i64 B)).setCell ⟨w.heap.size, 2, none⟩ (.int .i64 hc)).setCell ⟨w.heap.size, 3, none⟩ (.int .i64 hd)).setCell ⟨w.heap.size, 4, none⟩ (.int .i64 he) = W3 at *
    clear hW3 c0 c1 c2 c3 c4 f0 f1 f2 f3 f4 hG2 hB2
    have hs3lt := hG3.lt
    refine (New_any _).mono ?_
    rintro e W4 ⟨rfl, hw4⟩
    have hb34 : Below W3.heap.size W3 W4 := by rw [hw4]; exact kl_alloc _ _
    have hG4 := hG3.below hb34 hs3lt
    have c0 := hG4.cell 0
    have c1 := hG4.cell 1
    have c2 := hG4.cell 2
    have c3 := hG4.cell 3
    have c4 := hG4.cell 4
    simp at c0 c1 c2 c3 c4
    have HW4 := hide hw4
    clear hw4 hG4
    have hnn := NewNor_right W4 A B hc hd he (some ⟨W3.heap.size, 0, none⟩) hr
    unfold gcells at hnn
    go_wp2_with fail
    refine hnn.mono ?_
    rintro e W5 ⟨k17, bb17, eb17, rfl, hm17⟩
    have hK := hm17.kept (Below.refl _ W3) HW4.out
    have ok := NSt.new_ok hr 0
    have hrg := RightG.new hr
    have hbig := halfZ_big ok
    have HBS : Hid ((NSt.new A B hc hd he).bs = List.replicate (A * B) 255) := rfl
    have HAB : Hid ((NSt.new A B hc hd he).A * (NSt.new A B hc hd he).B = A * B) := rfl
    have HER0 : Hid ((NSt.new A B hc hd he).er = List.replicate (NSt.new A B hc hd he).A 0) := rfl
    have HNA : Hid ((NSt.new A B hc hd he).A = A) := rfl
    clear hm17 hnn hb34 c0 c1 c2 c3 c4 HW4
    generalize hL : (⟨k17, W3.heap.size, bb17, eb17⟩ : Lay) = L at *
    obtain rfl : k17 = L.c := by rw [← hL]
    have hpb : W3.heap.size = L.pb := by rw [← hL]
    clear hL
    generalize hbase : W5.heap.size = base at *
    generalize NSt.new A B hc hd he = N at *
    have HER := HER0
    obtain ⟨K, hK0⟩ : ∃ K, halfN N = K := ⟨_, rfl⟩
    have hKA : (A : Int) / 2 = (K : Int) := by
      have := HNA.out
      unfold halfN at hK0
      omega
    have hAb := ok.A1
    have hK8 : K ≤ 8 := by unfold halfN at hK0; omega
    obtain ⟨cut, hcut, hcq⟩ := cut_n cut0 (K + 1) (by omega) (by omega)
    rw [show ((K + 1 : Nat) : Int) = (K : Int) + 1 from by omega] at hcq
    have hu5 : IntKind.u64.wrap ((K : Int) + 1) = (K : Int) + 1 := by rw [IntKind.wrap_u64]; omega
    have hz5 : ((K : Int) + 1 == 0) = false := by simp; omega
    obtain ⟨S1, bs1, S2, bs2, x, S3, N3, S4, N4, p1, p2, p3, p4, hx, her1, her2, hpo, hpn, g3, g4, ok1, okS1, ok2, okS2, ok3, okS3, ok4⟩ := wipes_plain ok (M := A * B) HBS.out (by rw [← HAB.out]; exact hbig.2.2) HER.out a b (by rw [HLA.out]; exact hla) (by rw [HLB.out]; exact hlb) HRA.out.bys HRB.out.bys hH cut mask w4 (by omega)
    obtain ⟨G, hG⟩ : ∃ G, 1 - H = G := ⟨_, rfl⟩
    have hG1 : (1 : Int) - (H : Int) = (G : Int) := by omega
    have hG2 : G < 2 := by omega
    rw [hG] at her2 hpo
    rw [hK0] at her1 her2 hx
    have hrd2 : readH { N with bs := bs2 } (G : Int) = (0, part bs2 G (halfZ N)) := readH_part (H := G) ok2 hG2
    have hz3 : halfZ N3 = halfZ N := by unfold halfZ; rw [g3.A, g3.B]
    have hz4 : halfZ N4 = halfZ N := by unfold halfZ; rw [g4.A, g4.B]
    have hrd3 : readH N3 (G : Int) = (0, part bs2 G (halfZ N)) := by rw [readH_part (H := G) ok3 hG2, hz3, hpo]
    have hrd4 : readH N4 (H : Int) = (0, List.replicate (halfZ N) 255) := by rw [readH_part (H := H) ok4 hH, hz4, hpn]
    have hg3 := g3.right hrg
    have hg4 := g4.right hrg
    have hNA3 : N3.A = N.A := g3.A
    obtain ⟨M1, hM1, hM1b⟩ : ∃ M1 : Nat, H * K = M1 ∧ M1 ≤ 8 := ⟨_, rfl, by rcases half_two hH with rfl | rfl <;> omega⟩
    obtain ⟨M2, hM2, hM2b⟩ : ∃ M2 : Nat, G * K = M2 ∧ M2 ≤ 8 := ⟨_, rfl, by rcases half_two hG2 with rfl | rfl <;> omega⟩
    have hw1 : IntKind.i64.wrap ((H : Int) * (K : Int)) = (M1 : Int) := by rw [show (H : Int) * (K : Int) = ((H * K : Nat) : Int) by simp, hM1]; exact i64_in _ (by omega)
    have hw2 : IntKind.i64.wrap ((G : Int) * (K : Int)) = (M2 : Int) := by rw [show (G : Int) * (K : Int) = ((G * K : Nat) : Int) by simp, hM2]; exact i64_in _ (by omega)
    have hMA : M1 + K ≤ N.A ∧ M2 + K ≤ N.A := by
      unfold halfN at hK0
      rcases half_two hH with rfl | rfl <;> rcases half_two hG2 with rfl | rfl <;> omega
    rw [hM1] at her1
    rw [hM2] at her2
    generalize hZ : halfZ N = Z at *
    have hplO : (part bs2 G Z).length = Z := by rw [← hZ]; exact part_length (part_fits (H := G) ok2 hG2)
    have HP1 := hide p1
    have HP2 := hide p2
    have HP3 := hide p3
    have HP4 := hide p4
    have HX := hide hx
    have HE1 := hide her1
    have HE2 := hide her2
    have HRD2 := hide hrd2
    have HRD3 := hide hrd3
    have HRD4 := hide hrd4
    have HG3 := hide hg3
    have HG4 := hide hg4
    have HOK := hide ok
    have HRG := hide hrg
    have HO1 := hide ok1
    have HO2 := hide ok2
    have HO3 := hide ok3
    have HO4 := hide ok4
    have HS1 := hide okS1
    have HS2 := hide okS2
    have HS3 := hide okS3
    have HNA3 := hide hNA3
    have HMA := hide hMA
    have HPLO := hide hplO
    have HZB := hide hbig
    clear p1 p2 p3 p4 hx her1 her2 hrd2 hrd3 hrd4 hg3 hg4 ok hrg ok1 ok2 ok3 ok4 okS1 okS2 okS3 hNA3 hMA hplO hbig g3 g4 hz3 hz4 hpo hpn hM1 hM2 hG hZ hr hK0 HER HER0
    have hmk := wf_u8 w4
    rw [hpb]
    go_wp2_with fail
    refine (awake_any _).mono ?_
    rintro e w4 ⟨rfl, hb4⟩
    have hK4 := hK.below' hb4
    have happ := HAppend_any base w4 L PSt.zero N 0 hK4.dev (PSt.zero_ok 0) HOK.out HRG.out (by omega) hK4.size 0 0 (by decide) (.slice ao la acap) a ((HRA.out.below hB3).below (hK4.below))
    rw [HP1.out] at happ
    clear hb4 hK
    go_wp2_with fail
    refine happ.mono ?_
    rintro e w5 ⟨rfl, hD5, hO5⟩
    have hK5 := hK4.turn hD5 (hO5.wide (by simp))
    clear happ hD5 hO5 hK4
    have happ := HAppend_any base w5 L S1 { N with bs := bs1 } 300 hK5.dev HS1.out HO1.out HRG.out (by omega) hK5.size 1 0 (by decide) (.slice bo lb bcap) b ((HRB.out.below hB3).below (hK5.below))
    rw [HP2.out] at happ
    simp only at happ
    go_wp2_with fail
    refine happ.mono ?_
    rintro e w6 ⟨rfl, hD6, hO6⟩
    have hK6 := hK5.turn hD6 (hO6.wide (by simp))
    clear happ hD6 hO6 hK5
    have hrd := HRead_any base w6 L { N with bs := bs2 } 600 hK6.dev.2 HO2.out HRG.out (G : Int)
    rw [HRD2.out] at hrd
    simp only at hrd
    go_wp2_with fail
    refine hrd.mono ?_
    rintro e w7 ⟨v7, rfl, hown7, hb7⟩
    have hK7 := hK6.below' hb7
    have hfrom7 : ∀ b off n cap, v7 = .slice (some ⟨b, off, none⟩) n cap → base ≤ b := fun b off n cap e => Nat.le_trans hK6.size (hown7.from b off n cap e)
    have hr7 := hown7.row
    obtain ⟨oo, ocap, rfl⟩ := hr7.of_len
    have hG7 := hG3.below hK7.below hs3lt
    have c0 := hG7.cell 0
    simp at c0
    have hct := CutN_any base w7 L.pb S2 cut mask hK7.dev.1
    clear hrd hown7 hb7 hK6 hG7
    go_wp2_with fail
    refine hct.mono ?_
    rintro e w8 ⟨rfl, hP8, hg8⟩
    have hK8 := hK7.pow hP8 hg8
    have hr8 := hK7.rowKept hfrom7 hr7 (only_grown hg8 (fun k e => by cases e; simp))
    have hwi := HWipe_any base w8 L (S2.cut cut mask) { N with bs := bs2 } 600 hK8.dev (HS2.out.cut (wf_i64 (by omega) (by omega)) (by simp [Lit.wf, IntKind.min, IntKind.max, IntKind.signed, IntKind.bits]; omega)) HO2.out (by omega) (H : Int)
    rw [HP3.out] at hwi
    simp only at hwi
    clear hct hP8 hg8 hK7 hr7 c0
    go_wp2_with fail
    refine hwi.mono ?_
    rintro e w9 ⟨rfl, hD9, hO9⟩
    have hK9 := hK8.turn hD9 hO9
    have hr9 := hK8.rowKept hfrom7 hr8 hO9
    have hon := OnN_any base w9 L.pb S3 hK9.dev.1
    clear hwi hD9 hO9 hK8 hr8
    go_wp2_with fail
    refine hon.mono ?_
    rintro e w10 ⟨rfl, hP10, hg10⟩
    have hK10 := hK9.pow hP10 hg10
    have hr10 := hK9.rowKept hfrom7 hr9 (only_grown hg10 (fun k e => by cases e; simp))
    have hrd := HRead_any base w10 L N3 700 hK10.dev.2 HO3.out HG3.out (G : Int)
    rw [HRD3.out] at hrd
    simp only at hrd
    clear hon hP10 hg10 hK9 hr9
    go_wp2_with fail
    refine hrd.mono ?_
    rintro e w11 ⟨v11, rfl, hown11, hb11⟩
    have hK11 := hK10.below' hb11
    have hr11 := hr10.below hb11
    have hfrom11 : ∀ b off n cap, v11 = .slice (some ⟨b, off, none⟩) n cap → base ≤ b := fun b off n cap e => Nat.le_trans hK10.size (hown11.from b off n cap e)
    have hx11 := hown11.row
    obtain ⟨xo, xcap, rfl⟩ := hx11.of_len
    rw [HPLO.out] at hr11 hx11 hfrom7 hfrom11 ⊢
    have hers : ∀ s, Calls Try.prog 30 #[.pointer (some ⟨L.c, 0, none⟩), .int .i64 s] w11 fun e w' => e = .returned (.int .i64 (if 0 ≤ s ∧ s < N3.A then N3.er.getD s.toNat 0 else 0)) ∧ w' = w11 := fun s => Erases_any base w11 L N3 700 hK11.dev.2 HO3.out s
    have HERS := hide hers
    clear hrd hown11 hb11 hK10 hr10 hers
    go_wp2_with fail
    go_loop [22, 23] (fun i _ => ∃ k : Nat, k ≤ K ∧ i = .int .i64 k) (fun i _ => K - (intOf i).toNat)
    case atStart => exact ⟨0, Nat.zero_le _, rfl⟩
    case round =>
      obtain ⟨k, hk, rfl⟩ := hrel
      by_cases hlt : k < K
      · have e1 := HERS.out ((M1 + k : Nat) : Int)
        have e2 := HERS.out ((M2 + k : Nat) : Int)
        have hma := HMA.out
        have hna := HNA3.out
        rw [if_pos (by omega), Int.toNat_natCast, HE1.out k hlt] at e1
        rw [if_pos (by omega), Int.toNat_natCast, HE2.out k hlt] at e2
        have hq1 : IntKind.i64.wrap ((M1 : Int) + (k : Int)) = ((M1 + k : Nat) : Int) := by rw [i64_in _ (by omega)]; simp
        have hq2 : IntKind.i64.wrap ((M2 : Int) + (k : Int)) = ((M2 + k : Nat) : Int) := by rw [i64_in _ (by omega)]; simp
        clear hma hna
        generalize M1 + k = q1 at *
        generalize M2 + k = q2 at *
        by_cases hd : K - cut ≤ k
        · have hd' : (K : Int) - (cut : Int) ≤ (k : Int) := by omega
          rw [if_pos hd] at e1
          clear hd
          go_wp2_with fail
          refine e1.mono ?_
          rintro e wz ⟨rfl, rfl⟩
          go_wp2_with fail
          refine e2.mono ?_
          rintro e wz ⟨rfl, rfl⟩
          go_wp2
          go_round
          case rel => exact ⟨k + 1, by omega, by go_num⟩
          case measure => simp [intOf]; omega
        · have hd' : ¬ ((K : Int) - (cut : Int) ≤ (k : Int)) := by omega
          rw [if_neg hd] at e1
          clear hd
          go_wp2_with fail
          refine e1.mono ?_
          rintro e wz ⟨rfl, rfl⟩
          go_wp2_with fail
          refine e2.mono ?_
          rintro e wz ⟨rfl, rfl⟩
          go_wp2
          go_round
          case rel => exact ⟨k + 1, by omega, by go_num⟩
          case measure => simp [intOf]; omega
      · obtain rfl : k = K := by omega
        have hwi := HWipe_any base w11 L S3.on N3 700 hK11.dev HS3.out.on HO3.out (by omega) (H : Int)
        rw [HP4.out] at hwi
        simp only at hwi
        clear HERS
        go_wp2_with fail
        refine hwi.mono ?_
        rintro e w12 ⟨rfl, hD12, hO12⟩
        have hK12 := hK11.turn hD12 hO12
        have hr12 := hK11.rowKept hfrom7 hr11 hO12
        have hx12 := hK11.rowKept hfrom11 hx11 hO12
        have hrd := HRead_any base w12 L N4 800 hK12.dev.2 HO4.out HG4.out (H : Int)
        rw [HRD4.out] at hrd
        simp only at hrd
        clear hwi hD12 hO12 hK11 hr11 hx11 hfrom7 hfrom11
        go_wp2_with fail
        refine hrd.mono ?_
        rintro e w13 ⟨v13, rfl, hown13, hb13⟩
        have hK13 := hK12.below' hb13
        have hby := Bytes_any w13 (.slice oo Z ocap) (.slice xo Z xcap) _ _ (hr12.below hb13) (hx12.below hb13)
        rw [decide_eq_true rfl] at hby
        obtain ⟨yb, yo, yc, rfl, _, _, hyc⟩ := hown13.row.at (List.length_pos_iff.1 (by have := HZB.out; simp; omega))
        have hyc' : ∀ i, i < Z → w13.cell? ⟨yb, yo + i, none⟩ = some (.int .u8 255) := fun i hi => by
          have := hyc i (by simpa using hi)
          rwa [getD_rep7 hi] at this
        rw [List.length_replicate]
        have hZ1 := HZB.out.2.1
        clear hrd hb13 hK12 hown13 hyc hr12 hx12
        go_wp2_with fail
        go_loop [27] (fun i => ∃ j : Nat, j ≤ Z ∧ i = .int .i64 j) (fun i => Z - (intOf i).toNat)
        case atStart => exact ⟨0, Nat.zero_le _, rfl⟩
        case round =>
          obtain ⟨j, hj, rfl⟩ := hrel
          by_cases hlt : j < Z
          · have hc := hyc' j hlt
            clear hyc'
            go_wp2
            go_round
            case rel => exact ⟨j + 1, by omega, by go_num⟩
            case measure => simp [intOf]; omega
          · obtain rfl : j = Z := by omega
            have hF := hB3.trans (hK13.below.mono (by omega))
            clear hyc'
            rcases HX.out with ⟨h1, rfl⟩ | ⟨h1, rfl⟩
            case' inl => have hq0 : (k : Int) ≤ (cut : Int) := by omega
            case' inr => have hq0 : ¬ ((k : Int) ≤ (cut : Int)) := by omega
            all_goals
              clear h1
              go_wp2_with fail
              refine hby.mono ?_
              rintro e wz ⟨rfl, rfl⟩
              go_wp2
              go_ret
              exact ⟨rfl, hF⟩
end Go.Proofs.Ytgkgbbffgcmekaa
