/-
  The walk of garretlaw04.NorBits.
-/
import Derived.Test.YtnlfhapnclfonaaBitsP
import Derived.Test.YtnlfhapnclfonaaKeptN
import Derived.Test.YtnlfhapnclfonaaGeoO
namespace Go.Proofs.Ytnlfhapnclfonaa
open Go.RowKit
set_option linter.unusedVariables false

theorem erase_done (S : PSt) (N : NSt) (s : Nat) (hs : s < N.A) (h : S.step.1 = true) : eraseA S N s = (0, S.step.2.2, { N with bs := fill N.bs (s * N.B) 255 N.B, er := N.er.set s (N.er.getD s 0 + 1) }) := by
  unfold eraseA
  rw [if_pos (by omega), if_pos h, Int.toNat_natCast]

theorem readS_head (bs : List Int) (n : Nat) (hl : n ≤ bs.length) : readS bs 0 n = (0, bs.take n) := by
  have := readS_part bs 0 n (by omega)
  simpa using this

set_option maxRecDepth 100000 in
set_option maxHeartbeats 3000000 in
theorem NorBits_walk (ga gb gc gd ge at0 : Int) (av : Value) (a : List Int) (bv0 : Value) (b : List Int) (w : World) (w0 : GeoOk ga gb gc gd ge) (w1 : (Lit.int .i64 at0).wf = true) (w2 : IRow .u8 w av a) (w3 : IRow .u8 w bv0 b) :
    Calls Try.prog 4 #[.agg (gcells ga gb gc gd ge), .int .i64 at0, av, bv0] w fun e w' => e = .returned (.bool true) ∧ Below w.heap.size w w' := by
  have ra := w2.bytes
  have rb := w3.bytes
  clear w2 w3 w0
  have ham := ra.len
  have hbm := rb.len
  unfold maxLen at ham hbm
  obtain ⟨ao, acap, hav⟩ := ra.of_len
  obtain ⟨bo, bcap, hbv⟩ := rb.of_len
  subst hav hbv
  have HRA := hide ra
  have HRB := hide rb
  clear ra rb
  have hplay := fun w => play_any w ga gb gc gd ge
  have hB0 : Below w.heap.size w (w.alloc (.cells (gcells ga gb gc gd ge) 23)) := (Below.refl _ _).alloc (Nat.le_refl _) _
  have hG0 : Blk (w.alloc (.cells (gcells ga gb gc gd ge) 23)) w.heap.size (gcells ga gb gc gd ge) 23 := Blk.new w _ _
  generalize hLA : a.length = la at *
  generalize hLB : b.length = lb at *
  have HLA := hide hLA
  have HLB := hide hLB
  clear hLA hLB
  by_cases hbig : la > 200 ∨ lb > 200
  · by_cases h1 : (200 : Int) < la
    · go_enter Try.func4, Try.ntmps4
      go_wp2_with fail
      refine (awake_any _).mono ?_
      rintro e w4 ⟨rfl, hb4⟩
      go_wp2
      go_ret
      exact ⟨rfl, hB0.trans (hb4.mono (by simp))⟩
    · have h2 : (200 : Int) < lb := by omega
      go_enter Try.func4, Try.ntmps4
      go_wp2_with fail
      refine (awake_any _).mono ?_
      rintro e w4 ⟨rfl, hb4⟩
      go_wp2
      go_ret
      exact ⟨rfl, hB0.trans (hb4.mono (by simp))⟩
  · have hla : la ≤ 200 := by omega
    have hlb : lb ≤ 200 := by omega
    have hla' : ¬ ((200 : Int) < la) := by omega
    have hlb' : ¬ ((200 : Int) < lb) := by omega
    clear hbig ham hbm
    unfold gcells at hplay hB0 hG0 ⊢
    go_enter Try.func4, Try.ntmps4
    go_wp2_with fail
    generalize hW1 : w.alloc (.cells #[.int .i64 ga, .int .i64 gb, .int .i64 gc, .int .i64 gd, .int .i64 ge] 23) = W1 at *
    clear hW1
    refine (hplay _).mono ?_
    rintro e W2 ⟨A, B, hc, hd, he, rfl, hr, hb2⟩
    have hs1 := hG0.lt
    have hB2 := hB0.trans (hb2.mono (by omega))
    have hG2 := hG0.below hb2 hG0.lt
    clear hb2 hB0 hG0 hplay
    have c0 := hG2.cell 0
    have c1 := hG2.cell 1
    have c2 := hG2.cell 2
    have c3 := hG2.cell 3
    have c4 := hG2.cell 4
    have f0 := hG2.frozen 0
    have f1 := hG2.frozen 1
    have f2 := hG2.frozen 2
    have f3 := hG2.frozen 3
    have f4 := hG2.frozen 4
    simp at c0 c1 c2 c3 c4
    have hG3 := ((((hG2.set 0 (.int .i64 A)).set 1 (.int .i64 B)).set 2 (.int .i64 hc)).set 3 (.int .i64 hd)).set 4 (.int .i64 he)
    have hB3 : Below w.heap.size w (((((W2.setCell ⟨w.heap.size, 0, none⟩ (.int .i64 A)).setCell ⟨w.heap.size, 1, none⟩ (.int .i64 B)).setCell ⟨w.heap.size, 2, none⟩ (.int .i64 hc)).setCell ⟨w.heap.size, 3, none⟩ (.int .i64 hd)).setCell ⟨w.heap.size, 4, none⟩ (.int .i64 he)) := ((((hB2.setCell (Nat.le_refl _) _).setCell (Nat.le_refl _) _).setCell (Nat.le_refl _) _).setCell (Nat.le_refl _) _).setCell (Nat.le_refl _) _
    go_wp2_with fail
    generalize hW3 : ((((W2.setCell ⟨w.heap.size, 0, none⟩ (.int .i64 A)).setCell ⟨w.heap.size, 1, none⟩ (.int .i64 B)).setCell ⟨w.heap.size, 2, none⟩ (.int .i64 hc)).setCell ⟨w.heap.size, 3, none⟩ (.int .i64 hd)).setCell ⟨w.heap.size, 4, none⟩ (.int .i64 he) = W3 at *
    clear hW3 c0 c1 c2 c3 c4 f0 f1 f2 f3 f4 hG2 hB2
    have hH3 : HoldG w.heap.size A B hc hd he W3 := holdG_of hG3
    go_region_held3 (fun w' => (w'.cell? ⟨w.heap.size, 0, none⟩ = some (.int .i64 A) ∧ w'.cell? ⟨w.heap.size, 1, none⟩ = some (.int .i64 B) ∧ w'.cell? ⟨w.heap.size, 2, none⟩ = some (.int .i64 hc) ∧ w'.cell? ⟨w.heap.size, 3, none⟩ = some (.int .i64 hd) ∧ w'.cell? ⟨w.heap.size, 4, none⟩ = some (.int .i64 he)) ∧ Blk w' w.heap.size (gcells A B hc hd he) 23)
      (first
        | assumption
        | exact holdG_below hm17.below (by assumption)
        | exact holdG_drew (by assumption)
        | exact holdG_alloc _ (by assumption))
      (first
        | (go_at_call 8; refine (New_any _).mono ?_; rintro e w16 ⟨rfl, rfl⟩)
        | (go_at_call 10; refine (NewNor_right _ A B hc hd he _ hr).mono ?_; rintro e w17 ⟨k17, bb17, eb17, rfl, hm17⟩))
    have hK := hm17.kept2 (w0 := W3) (Below.refl _ _) rfl (Below.refl _ _).drew
    have ok := NSt.new_ok hr 0
    have hbigN := ok.big
    have hNA : (NSt.new A B hc hd he).A = A := rfl
    have hNB : (NSt.new A B hc hd he).B = B := rfl
    have HBS : Hid ((NSt.new A B hc hd he).bs = List.replicate (A * B) 255) := rfl
    have HER : Hid ((NSt.new A B hc hd he).er = List.replicate A 0) := rfl
    clear hm17 hr
    generalize hL : (⟨k17, W3.heap.size, bb17, eb17⟩ : Lay) = L at *
    obtain rfl : k17 = L.c := by rw [← hL]
    clear hL
    generalize hbase : w17.heap.size = base at *
    generalize NSt.new A B hc hd he = N at *
    have hA0 := ok.A0
    have hA1 := ok.A1
    have hBB0 := ok.B0
    have hBB1 := ok.B1
    rw [hNA] at hA0 hA1 hbigN
    rw [hNB] at hBB0 hBB1 hbigN
    have hmul : (B : Int) * (A : Int) = ((A * B : Nat) : Int) := by rw [Int.mul_comm]; simp
    obtain ⟨P, hP, hPq⟩ := cut_big at0 (A * B - 200) (by omega) (by omega)
    obtain ⟨S1, S2, bs1, bs2, p1, p2, hl1, hl2, hst1, hst2⟩ := bits_plain A B P a b N.bs hA0 hBB0 (by omega) (by rw [HLA.out]; exact hla) (by rw [HLB.out]; exact hlb) HRA.out.bys HRB.out.bys HBS.out
    rw [HLB.out] at p2
    have hS1 : S1.Ok 200 ∧ NSt.Ok { N with bs := bs1 } 200 := by
      have := progA_ok (p := (P : Int)) (PSt.zero_ok 0) ok.bys HRA.out.bys
      rw [p1] at this
      exact ⟨this.1.more (by rw [HLA.out]; omega), (ok.more (by omega)).bytes this.2.1 this.2.2⟩
    have hS2 : S2.Ok 400 ∧ NSt.Ok { N with bs := bs2 } 400 := by
      have := progA_ok (p := (P : Int)) hS1.1 hS1.2.bys HRB.out.bys
      simp only at this
      rw [p2] at this
      exact ⟨this.1.more (by rw [HLB.out]; omega), (ok.more (by omega)).bytes (by rw [hl2, ← hNA, ← hNB]; exact ok.len.symm) this.2.2⟩
    obtain ⟨s, hs⟩ : ∃ s, s = P / B := ⟨_, rfl⟩
    have hsA : s < A := by rw [hs]; exact Nat.div_lt_of_lt_mul (by rw [Nat.mul_comm]; omega)
    have hse : s * B + B ≤ A * B := by
      have := Nat.mul_le_mul_right B (show s + 1 ≤ A by omega)
      rw [Nat.add_mul] at this
      omega
    have hquo : (P : Int) / (B : Int) = (s : Int) := by rw [hs]; simp
    have hq0 : (P : Int).tdiv (B : Int) = (s : Int) := by rw [Int.tdiv_eq_ediv_of_nonneg (by omega)]; exact hquo
    have hBn : ¬ B = 0 := by omega
    have hBz : ¬ (B : Int) = 0 := by omega
    have hqr : ∀ w, (Op.intDiv .quo .i64 (P : Int) (B : Int)).run Try.prog w = .ok (.int .i64 (s : Int)) w := by
      intro w
      unfold Op.intDiv
      rw [if_neg hBz, i64_in _ (by rw [hq0]; omega), hq0]
      rfl
    have hE := erase_done S2 { N with bs := bs2 } s (by simp only; omega) hst2
    have her0 : N.er.getD s 0 = 0 := by rw [HER.out]; simp [List.getD, hsA]
    simp only at hE
    rw [her0, hNB] at hE
    have her1 : (N.er.set s (0 + 1)).getD s 0 = 1 := by rw [getD_set, if_pos ⟨rfl, by rw [HER.out]; simpa using hsA⟩]; rfl
    have okE := (eraseA_ok (s := (s : Int)) hS2.1 hS2.2)
    rw [hNB] at okE
    rw [hE] at okE
    have hr1 := readS_head bs2 (s * B) (by omega)
    have hr2 := readS_head (fill bs2 (s * B) 255 B) (s * B) (by rw [fill_length]; omega)
    rw [take_fill _ _ _ _ (by omega)] at hr2
    have hr3 := readS_part (fill bs2 (s * B) 255 B) (s * B) B (by rw [fill_length]; omega)
    have hown : ∀ k, k < B → (((fill bs2 (s * B) 255 B).drop (s * B)).take B).getD k 0 = 255 := fun k hk => own_fill (bs := bs2) hS2.2.bys _ _ _ (by omega) hk
    have hol : (((fill bs2 (s * B) 255 B).drop (s * B)).take B).length = B := by simp [fill_length]; omega
    have hhl : (bs2.take (s * B)).length = s * B := by simp; omega
    generalize ((fill bs2 (s * B) 255 B).drop (s * B)).take B = ow at hr3 hown hol
    have hsm : (s : Int) * (B : Int) = ((s * B : Nat) : Int) := by simp
    generalize hQ : s * B = Q at *
    have HOWN := hide hown
    have HOL := hide hol
    have HHL := hide hhl
    have HR1 := hide hr1
    have HR2 := hide hr2
    have HR3 := hide hr3
    have HE := hide hE
    have HER1 := hide her1
    have HP2 := hide p2
    have hs3lt : w.heap.size < W3.heap.size := hG3.lt
    obtain ⟨n, hn⟩ : ∃ n, A * B - 200 = n := ⟨_, rfl⟩
    rw [hn] at hPq hP
    obtain ⟨len, hlen⟩ : ∃ len, A * B = len := ⟨_, rfl⟩
    rw [hlen] at hmul hn hse hl1 hl2 hbigN
    have hsub : (len : Int) - 200 = (n : Int) := by omega
    have hn0 : ((n : Int) == 0) = false := by rw [beq_eq_false_iff_ne]; omega
    have hnw : IntKind.u64.wrap (n : Int) = n := by rw [IntKind.wrap_u64]; omega
    have hraW := HRA.out.below hB3
    have hrbW := HRB.out.below hB3
    clear p2 hE her1 hr1 hr2 hr3 hown hol hhl hst1 hst2 hH3 hs hq0 hQ hqr
    go_wp2_with fail
    refine (awake_any _).mono ?_
    rintro e w4 ⟨rfl, hb4⟩
    have hK4 := hK.below' hb4
    have hpg := Program_any base w4 L PSt.zero N 0 hK4.dev (PSt.zero_ok 0) ok (by omega) P (wf_i64 (by omega) (by omega)) (.slice ao la acap) a (hraW.below hK4.below) (by rw [HLA.out]; omega) (hK4.apart0 hraW)
    rw [p1] at hpg
    have hG4 := hG3.below hK4.below hs3lt
    have c0 := hG4.cell 0
    have c1 := hG4.cell 1
    simp at c0 c1
    clear hb4 hK p1
    go_wp2_with fail
    refine hpg.mono ?_
    rintro e w5 ⟨rfl, hD5, hO5⟩
    have hK5 := hK4.turn hD5 (hO5.wide (by simp))
    clear hpg hD5 hO5 hK4 c0 c1 hG4
    go_wp2_with fail
    go_loopw [11, 12] (fun m i wr => ∃ k : Nat, k ≤ lb ∧ i = .int .i64 k ∧ m = .bool (mayTo a b k) ∧ Only [] w5 wr) (fun _ i _ => lb - (intOf i).toNat)
    case atStart => exact ⟨0, Nat.zero_le _, rfl, rfl, Only.refl _ _⟩
    case round =>
      obtain ⟨k, hk, rfl, rfl, hon⟩ := hrel
      have hKk := hK5.still hon
      by_cases hlt : k < lb
      · obtain ⟨bb', boff, bcap', hbv, _, hbblt, hbc⟩ := hrbW.at (List.length_pos_iff.1 (by rw [HLB.out]; omega))
        obtain ⟨rfl, rfl⟩ : bo = some ⟨bb', boff, none⟩ ∧ bcap = bcap' := by rw [HLB.out] at hbv; simpa using hbv
        have hcb : wr.cell? ⟨bb', boff + k, none⟩ = some (.int .u8 (b.getD k 0)) := (hKk.below.cell (p := ⟨bb', boff + k, none⟩) hbblt).trans (hbc k (by rw [HLB.out]; exact hlt))
        have hmay : mayTo a b (k + 1) = (mayTo a b k && (bits .and .u8 (b.getD k 0) (wasS a k) == b.getD k 0)) := rfl
        clear hbv hbc hbblt
        have hlt' : (k : Int) < lb := by omega
        by_cases ha : k < la
        · obtain ⟨ab, aoff, acap', hav, _, hablt, hac⟩ := hraW.at (List.length_pos_iff.1 (by rw [HLA.out]; omega))
          obtain ⟨rfl, rfl⟩ : ao = some ⟨ab, aoff, none⟩ ∧ acap = acap' := by rw [HLA.out] at hav; simpa using hav
          have hca : wr.cell? ⟨ab, aoff + k, none⟩ = some (.int .u8 (a.getD k 0)) := (hKk.below.cell (p := ⟨ab, aoff + k, none⟩) hablt).trans (hac k (by rw [HLA.out]; exact ha))
          clear hav hac hablt
          rw [show wasS a k = a.getD k 0 from if_pos (by rw [HLA.out]; exact ha)] at hmay
          generalize a.getD k 0 = ya at *
          generalize b.getD k 0 = yb at *
          cases hm : mayTo a b k with
          | true =>
            rw [hm] at hmay
            have HM := hide hmay
            clear hmay hm
            go_wp2_with fail
            go_quiet (fail)
            go_wp2
            exact ⟨⟨k + 1, by omega, by go_num, by rw [HM.out]; rfl, hon.trans (only_drewN _ _)⟩, by simp [intOf]; omega⟩
          | false =>
            rw [hm] at hmay
            have HM := hide hmay
            clear hmay hm
            go_wp2_with fail
            go_quiet (fail)
            go_wp2
            exact ⟨⟨k + 1, by omega, by go_num, by rw [HM.out]; rfl, hon.trans (only_drewN _ _)⟩, by simp [intOf]; omega⟩
        · rw [show wasS a k = 255 from if_neg (by rw [HLA.out]; exact ha)] at hmay
          generalize b.getD k 0 = yb at *
          cases hm : mayTo a b k with
          | true =>
            rw [hm] at hmay
            have HM := hide hmay
            clear hmay hm
            go_wp2_with fail
            go_quiet (fail)
            go_wp2
            exact ⟨⟨k + 1, by omega, by go_num, by rw [HM.out]; rfl, hon.trans (only_drewN _ _)⟩, by simp [intOf]; omega⟩
          | false =>
            rw [hm] at hmay
            have HM := hide hmay
            clear hmay hm
            go_wp2_with fail
            go_quiet (fail)
            go_wp2
            exact ⟨⟨k + 1, by omega, by go_num, by rw [HM.out]; rfl, hon.trans (only_drewN _ _)⟩, by simp [intOf]; omega⟩
      · obtain rfl : k = lb := by omega
        have hpg2 := Program_any base wr L S1 { N with bs := bs1 } 200 hKk.dev hS1.1 hS1.2 (by omega) P (wf_i64 (by omega) (by omega)) (.slice bo k bcap) b (hrbW.below hKk.below) (by rw [HLB.out]; omega) (hKk.apart0 hrbW)
        simp only at hpg2
        rw [HP2.out] at hpg2
        generalize mayTo a b k = may at *
        clear hK5 hon HP2
        go_wp2_with fail
        refine hpg2.mono ?_
        rintro e w6 ⟨rfl, hD6, hO6⟩
        have hK6 := hKk.turn hD6 (hO6.wide (by simp))
        have hG6 := hG3.below hK6.below hs3lt
        have c1 := hG6.cell 1
        simp at c1
        have hrd1 := Read_any base w6 L { N with bs := bs2 } 400 hK6.dev.2 hS2.2 0 Q (by decide) (wf_i64 (by omega) (by omega))
        simp only at hrd1
        rw [HR1.out] at hrd1
        clear hpg2 hD6 hO6 hKk hG6
        have hsz6 := hK6.size
        cases may
        all_goals
          go_wp2_with fail
          refine hrd1.mono ?_
          rintro e w7 ⟨v16, rfl, hown16, hb7⟩
          have hK7 := hK6.below' hb7
          have hfrom16 : ∀ b off n cap, v16 = .slice (some ⟨b, off, none⟩) n cap → base ≤ b := fun b off n cap e => Nat.le_trans hsz6 (hown16.from b off n cap e)
          have hr16 := hown16.row
          obtain ⟨xo, xcap, rfl⟩ := hr16.of_len
          rw [HHL.out] at hr16 hfrom16 ⊢
          have her := Erase_any base w7 L S2 { N with bs := bs2 } 400 hK7.dev hS2.1 hS2.2 (by omega) s
          rw [hNB] at her
          rw [HE.out] at her
          clear hrd1 hown16 hb7 hK6 c1
          go_wp2_with fail
          refine her.mono ?_
          rintro e w8 ⟨rfl, hD8, hO8⟩
          have hK8 := hK7.turn hD8 hO8
          have hr16' := hK7.rowKept hfrom16 hr16 hO8
          have hes := Erases_any base w8 L _ 401 hK8.dev.2 okE.2 s
          simp only at hes
          rw [if_pos (show 0 ≤ (s : Int) ∧ (s : Int) < (N.A : Int) by omega), Int.toNat_natCast, HER1.out] at hes
          have hG8 := hG3.below hK8.below hs3lt
          have c1 := hG8.cell 1
          simp at c1
          have hrd2 := Read_any base w8 L _ 401 hK8.dev.2 okE.2 0 Q (by decide) (wf_i64 (by omega) (by omega))
          simp only at hrd2
          rw [HR2.out] at hrd2
          clear her hD8 hO8 hK7 hr16 hG8
          go_wp2_with fail
          refine hes.mono ?_
          rintro e w9 ⟨rfl, rfl⟩
          clear hes
          go_wp2_with fail
          refine hrd2.mono ?_
          rintro e w10 ⟨v18, rfl, hown18, hb10⟩
          have hK10 := hK8.below' hb10
          have hr16a := hr16'.below hb10
          have hr18 := hown18.row
          obtain ⟨yo, ycap, rfl⟩ := hr18.of_len
          rw [HHL.out] at hr18 ⊢
          have hG10 := hG3.below hK10.below hs3lt
          have d1 := hG10.cell 1
          simp at d1
          have hrd3 := Read_any base w10 L _ 401 hK10.dev.2 okE.2 Q B (wf_i64 (by omega) (by omega)) (wf_i64 (by omega) (by omega))
          simp only at hrd3
          rw [HR3.out] at hrd3
          clear hrd2 hown18 hb10 hK8 hr16' c1 hG10
          go_wp2_with fail
          refine hrd3.mono ?_
          rintro e w11 ⟨v20, rfl, hown20, hb11⟩
          have hK11 := hK10.below' hb11
          have hr16b := hr16a.below hb11
          have hr18b := hr18.below hb11
          have hr20 := hown20.row
          obtain ⟨zo, zcap, rfl⟩ := hr20.of_len
          rw [HOL.out] at hr20 ⊢
          have hG11 := hG3.below hK11.below hs3lt
          have f1 := hG11.cell 1
          simp at f1
          have hby := Bytes_any w11 _ _ _ _ hr16b hr18b
          rw [decide_eq_true rfl] at hby
          have hfin := hB3.trans (hK11.below.mono (by omega))
          have HFIN := hide hfin
          clear hrd3 hown20 hb11 hK10 hr16a hr18 d1 hG11 hfin
          go_wp2_with fail
          go_loop [22] (fun i => ∃ k : Nat, k ≤ B ∧ i = .int .i64 k) (fun i => B - (intOf i).toNat)
          case atStart => exact ⟨0, Nat.zero_le _, rfl⟩
          case round =>
            obtain ⟨q, hq, rfl⟩ := hrel
            by_cases hlt3 : q < B
            · obtain ⟨gb', goff, gcap', hgv, _, _, hgc⟩ := hr20.at (List.length_pos_iff.1 (by rw [HOL.out]; omega))
              obtain ⟨rfl, rfl⟩ : zo = some ⟨gb', goff, none⟩ ∧ zcap = gcap' := by rw [HOL.out] at hgv; simpa using hgv
              have hcg := hgc q (by rw [HOL.out]; exact hlt3)
              rw [HOWN.out q hlt3] at hcg
              have hq' : (q : Int) < B := by omega
              clear hgc hgv
              go_wp2
              exact ⟨⟨q + 1, by omega, by go_num⟩, by simp [intOf]; omega⟩
            · obtain rfl : q = B := by omega
              go_wp2_with fail
              refine hby.mono ?_
              rintro e w12 ⟨rfl, rfl⟩
              go_wp2
              go_ret
              exact ⟨rfl, HFIN.out⟩
end Go.Proofs.Ytnlfhapnclfonaa
