/-
  The walk of garretlaw04.NorTorn.
-/
import Derived.Test.YtnlfhapnclfonaaKeptN
namespace Go.Proofs.Ytnlfhapnclfonaa
open Go.RowKit
set_option linter.unusedVariables false

set_option maxRecDepth 100000 in
set_option maxHeartbeats 8000000 in
theorem NorTorn_walk (av : Value) (a : List Int) (bv0 : Value) (b : List Int) (cut0 mask : Int) (w : World) (w0 : IRow .u8 w av a) (w1 : IRow .u8 w bv0 b) (w2 : (Lit.int .i64 cut0).wf = true) (w3 : (Lit.int .u8 mask).wf = true) :
    Calls Try.prog 6 #[av, bv0, .int .i64 cut0, .int .u8 mask] w fun e w' => e = .returned (.bool true) ∧ Below w.heap.size w w' := by
  have ra := w0.bytes
  have rb := w1.bytes
  have hm := wf_u8 w3
  clear w0 w1
  have ham := ra.len
  have hbm := rb.len
  unfold maxLen at ham hbm
  obtain ⟨ao, acap, hav⟩ := ra.of_len
  obtain ⟨bo, bcap, hbv⟩ := rb.of_len
  subst hav hbv
  have HRA := hide ra
  have HRB := hide rb
  clear ra rb
  by_cases hbig : a.length > 100 ∨ b.length > 100
  · generalize a.length = la at *
    generalize b.length = lb at *
    by_cases h1 : (100 : Int) < la
    · go_enter Try.func6, Try.ntmps6
      go_wp2_with fail
      refine (awake_any _).mono ?_
      rintro e w4 ⟨rfl, hb4⟩
      go_wp2
      go_ret
      exact ⟨rfl, hb4⟩
    · have h2 : (100 : Int) < lb := by omega
      go_enter Try.func6, Try.ntmps6
      go_wp2_with fail
      refine (awake_any _).mono ?_
      rintro e w4 ⟨rfl, hb4⟩
      go_wp2
      go_ret
      exact ⟨rfl, hb4⟩
  · have hla : a.length ≤ 100 := by omega
    have hlb : b.length ≤ 100 := by omega
    clear hbig ham hbm
    obtain ⟨cut, hcut, hcq⟩ := cut_n cut0 110 (by omega) (by omega)
    rw [show ((110 : Nat) : Int) = 110 from rfl] at hcq
    obtain ⟨x, hx⟩ : ∃ x, x = andTo b a (min b.length a.length) := ⟨_, rfl⟩
    have hxl : x.length = b.length := by rw [hx, andTo_length]
    have hxb : Bys x := by rw [hx]; exact andTo_bys HRB.out.bys a _
    have HX := hide hx
    have HXL := hide hxl
    clear hx hxl
    generalize hLA : a.length = la at *
    generalize hLB : b.length = lb at *
    have HLA := hide hLA
    have HLB := hide hLB
    clear hLA hLB
    have hla' : ¬ ((100 : Int) < la) := by omega
    have hlb' : ¬ ((100 : Int) < lb) := by omega
    go_enter Try.func6, Try.ntmps6
    go_wp2_with fail
    refine (New_any _).mono ?_
    rintro e wp ⟨rfl, hwp⟩
    have HWP := hide hwp
    clear hwp
    go_wp2_with fail
    refine (small_any _).mono ?_
    rintro e ws ⟨A, B, gc, gd, ge, rfl, hr, hbs⟩
    go_wp2_with fail
    refine (NewNor_right ws A B gc gd ge _ hr).mono ?_
    rintro e wc ⟨k, bb, eb, rfl, hmade⟩
    have hK := hmade.kept2 (Below.refl _ w) HWP.out hbs
    have ok := NSt.new_ok hr 0
    have hbigN := ok.big
    clear HWP hmade hbs hr
    generalize hL : (⟨k, w.heap.size, bb, eb⟩ : Lay) = L at *
    obtain rfl : k = L.c := by rw [← hL]
    have hpb : w.heap.size = L.pb := by rw [← hL]
    clear hL
    rw [hpb]
    have HPB := hide hpb
    clear hpb
    generalize hbase : wc.heap.size = base at *
    have HN : Hid ((NSt.new A B gc gd ge).bs.length = (NSt.new A B gc gd ge).A * (NSt.new A B gc gd ge).B) := ok.len
    have HBS : Hid ((NSt.new A B gc gd ge).bs = List.replicate ((NSt.new A B gc gd ge).A * (NSt.new A B gc gd ge).B) 255) := rfl
    have HER : Hid ((NSt.new A B gc gd ge).er.getD 0 0 = 0) := by unfold Hid; simp only [NSt.new, List.getD]; rw [List.getElem?_replicate]; split <;> rfl
    generalize NSt.new A B gc gd ge = N at *
    obtain ⟨S1, S2, S3, bs1, bs2, f, p1, p2, hf, hl1, hl2, hgot, p3, p4⟩ := torn_plain (N.A * N.B) a b cut mask hbigN.1 (by rw [HLA.out]; exact hla) (by rw [HLB.out]; exact hlb) hcut HRA.out.bys HRB.out.bys x (by rw [HX.out, HLA.out, HLB.out]) N.bs HBS.out
    rw [HLB.out] at hf
    have hS1 : S1.Ok 100 := by
      have := (progA_ok (p := 0) (PSt.zero_ok 0) ok.bys HRA.out.bys).1
      rw [p1] at this
      exact this.more (by rw [HLA.out]; omega)
    have hN1 : NSt.Ok { N with bs := bs1 } 100 := by
      have := (progA_ok (p := 0) (PSt.zero_ok 0) ok.bys HRA.out.bys)
      rw [p1] at this
      exact (ok.more (by omega)).bytes this.2.1 this.2.2
    have hS1c : (S1.cut cut mask).Ok 100 := hS1.cut (wf_i64 (by omega) (by omega)) w3
    have hN2 : S2.Ok 200 ∧ NSt.Ok { N with bs := bs2 } 200 := by
      have := (progA_ok (p := 0) hS1c hN1.bys hxb)
      simp only at this
      rw [p2] at this
      exact ⟨this.1.more (by rw [HXL.out]; omega), (ok.more (by omega)).bytes (by rw [this.2.1, hl1, HN.out]) this.2.2⟩
    have hS3 : S3.Ok 400 := by
      have := (progA_ok (p := 0) (b := bs2.take 120) hN2.1 hN2.2.bys (hN2.2.bys.take 120)).1
      simp only at this
      rw [p3] at this
      exact this.more (by simp; omega)
    have hS4 : (S3.on.cut 0 mask).Ok 400 := hS3.on.cut (by decide) w3
    have hr2 : readS bs2 0 120 = (0, bs2.take 120) := by
      unfold readS
      have h1 : hasS bs2.length 0 120 = true := by simp [hasS]; omega
      rw [h1]; rfl
    have hB0 := ok.B0
    have hA0 := ok.A0
    have hE : eraseA (S3.on.cut 0 mask) { N with bs := bs2 } 0 = (6, { S3.on.cut 0 mask with off := true }, { N with bs := fill bs2 0 mask N.B }) := by
      unfold eraseA
      rw [if_pos (by simp only; omega), p4]
      simp [PSt.cut]
    have hr3 : readS (fill bs2 0 mask N.B) 0 120 = (0, (fill bs2 0 mask N.B).take 120) := by
      unfold readS
      have h1 : hasS (fill bs2 0 mask N.B).length 0 120 = true := by simp [hasS, fill_length]; omega
      rw [h1]; rfl
    have hgot3 : ∀ k, k < 120 → (fill bs2 0 mask N.B).getD k 0 = bits .or .u8 (bs2.getD k 0) mask := by
      intro k hk
      rw [fill_at _ _ _ _ _ (by have := ok.sector (s := 0) (by omega); omega), if_pos (by omega)]
    have hlen120 : (bs2.take 120).length = 120 := by simp; omega
    have hlen121 : ((fill bs2 0 mask N.B).take 120).length = 120 := by simp [fill_length]; omega
    have HGOT := hide hgot
    have HGOT3 := hide hgot3
    have HP2 := hide p2
    have HP3 := hide p3
    have HR2 := hide hr2
    have HR3 := hide hr3
    have HE := hide hE
    have HL1 := hide hlen120
    have HL2 := hide hlen121
    have HLN := hide hl2
    clear hgot hgot3 p2 p3 p4 hr2 hr3 hE hlen120 hlen121 hl1 hl2
    go_wp2_with fail
    refine (awake_any _).mono ?_
    rintro e w4 ⟨rfl, hb4⟩
    have hK4 := hK.below' hb4
    have hpg := Program_any base w4 L PSt.zero N 0 hK4.dev (PSt.zero_ok 0) ok (by omega) 0 (by decide) (.slice ao la acap) a (HRA.out.below hK4.below) (by rw [HLA.out]; omega) (hK4.apart0 HRA.out)
    rw [p1] at hpg
    clear hb4 hK
    go_wp2_with fail
    refine hpg.mono ?_
    rintro e w5 ⟨rfl, hD5, hO5⟩
    have hK5 := hK4.turn hD5 (hO5.wide (by simp))
    have hrb5 := HRB.out.below hK5.below
    have hsz5 := hK5.size
    clear hpg hD5 hO5 hK4
    go_wp2_with (at_builtin; refine wpList_append_row rfl _ _ rfl base _ _ [] b rfl (Own.nil _ _) rfl hrb5 (by rw [List.length_nil, HLB.out]; omega) hsz5 ?_)
    intro v12 w6 hown hg6
    try rw [List.nil_append] at hown
    have hK6 := hK5.still (only_grown hg6 (fun k e => by cases e))
    obtain ⟨xo, xcap, rfl⟩ := hown.row.of_len
    rw [HLB.out] at hown ⊢
    clear hg6 hrb5 hsz5 hK5
    go_wp2_with fail
    go_loopw [13] (fun i wr => ∃ k : Nat, k ≤ lb ∧ k ≤ la ∧ i = .int .i64 k ∧ Own base wr (.slice xo lb xcap) (andTo b a k) ∧ Kept w base wr L S1 { N with bs := bs1 }) (fun i _ => lb - (intOf i).toNat)
    case atStart => exact ⟨0, Nat.zero_le _, Nat.zero_le _, rfl, hown, hK6⟩
    case round =>
      clear hown hK6
      obtain ⟨k, hk1, hk2, rfl, hok, hKk⟩ := hrel
      by_cases hlt : k < lb ∧ k < la
      · obtain ⟨hlt1, hlt2⟩ := hlt
        have hal : (andTo b a k).length = lb := by rw [andTo_length, HLB.out]
        obtain ⟨g, cap', hv, hg1, hg2, hg3⟩ := hok.form (by omega)
        obtain ⟨rfl, rfl⟩ : xo = some ⟨g, 0, none⟩ ∧ xcap = cap' := by rw [hal] at hv; simpa using hv
        have hc := hok.cellAt hal k hlt1
        have hf' := hok.frozenAt hal k
        obtain ⟨ab, aoff, acap', hav, _, hablt, hac⟩ := HRA.out.at (List.length_pos_iff.1 (by rw [HLA.out]; omega))
        obtain ⟨rfl, rfl⟩ : ao = some ⟨ab, aoff, none⟩ ∧ acap = acap' := by rw [HLA.out] at hav; simpa using hav
        have hca : wr.cell? ⟨ab, aoff + k, none⟩ = some (.int .u8 (a.getD k 0)) := (hKk.below.cell (p := ⟨ab, aoff + k, none⟩) hablt).trans (hac k (by rw [HLA.out]; exact hlt2))
        have R := (hok.kept ((Below.refl _ wr).drew)).stored hal k (bits .and .u8 ((andTo b a k).getD k 0) (a.getD k 0)) (bits_u8 _ _ _)
        have G := (hKk.still (only_drew wr)).other (only_setCell wr.drew g k (.int .u8 (bits .and .u8 ((andTo b a k).getD k 0) (a.getD k 0))) [g] (by simp)) hg1
        have HR : Hid (Own base (wr.drew.setCell ⟨g, k, none⟩ (.int .u8 (bits .and .u8 ((andTo b a k).getD k 0) (a.getD k 0)))) (.slice (some ⟨g, 0, none⟩) lb xcap) (andTo b a (k + 1))) := R
        have hl1 : (k : Int) < lb := by omega
        have hl2 : (k : Int) < la := by omega
        clear R hok hKk hac hav hv hf
        generalize (andTo b a k).getD k 0 = xk at *
        generalize a.getD k 0 = ak at *
        go_wp2_with fail
        refine still_tail_drew 10 (by kernel_rfl) (by kernel_rfl) ?_
        simp only [List.take_succ_cons, List.take_zero, List.drop_succ_cons, List.drop_zero]
        repeat still_step
        refine wpStill_nil ?_
        go_wp2
        exact ⟨⟨k + 1, by omega, by omega, by go_num, HR.out, G⟩, by simp [intOf]; omega⟩
      · have hmin := min_exit hk1 hk2 hlt
        have hXk : andTo b a k = x := by rw [HX.out, hmin]
        rw [hXk] at hok
        have hrx := hok.row
        have hfrom := hok.from
        have hcutc := CutN_any base wr L.pb S1 cut mask hKk.dev.1
        clear hXk hmin hok
        refine (Classical.em (k < lb)).elim (fun h1 => ?e1) (fun h1 => ?e2)
        case' e1 =>
          have h2 : ¬ ((k : Int) < la) := by omega
          have h1' : (k : Int) < lb := by omega
          go_wp2_with fail
        case' e2 =>
          have h1' : ¬ ((k : Int) < lb) := by omega
          go_wp2_with fail
        all_goals
          refine hcutc.mono ?_
          rintro e w7 ⟨rfl, hP7, hg7⟩
          have hK7 := hKk.pow hP7 hg7
          have hrx7 := hKk.rowKept hfrom hrx (only_grown hg7 (fun k e => by cases e; simp))
          have hpg := Program_any base w7 L (S1.cut cut mask) { N with bs := bs1 } 100 hK7.dev hS1c hN1 (by omega) 0 (by decide) (.slice xo lb xcap) x hrx7 (by rw [HXL.out]; omega) (hK7.apart hfrom)
          simp only at hpg
          rw [HP2.out] at hpg
          clear hcutc hP7 hg7 hKk hrx
          go_wp2_with fail
          refine hpg.mono ?_
          rintro e w8 ⟨rfl, hD8, hO8⟩
          have hK8 := hK7.turn hD8 (hO8.wide (by simp))
          have hrx8 := hK7.rowKept hfrom hrx7 (hO8.wide (by simp))
          have hrd := Read_any base w8 L { N with bs := bs2 } 200 hK8.dev.2 hN2.2 0 120 (by decide) (by decide)
          simp only at hrd
          rw [HR2.out] at hrd
          clear hpg hD8 hO8 hK7 hrx7
          rcases hf with ⟨rfl, hle⟩ | ⟨rfl, hle⟩
        all_goals
          go_wp2_with fail
          refine hrd.mono ?_
          rintro e w9 ⟨v15, rfl, hown15, hb9⟩
          have hK9 := hK8.below' hb9
          have hrx9 := hrx8.below hb9
          have hsz8 := hK8.size
          have hfrom15 : ∀ b off n cap, v15 = .slice (some ⟨b, off, none⟩) n cap → base ≤ b := fun b off n cap e => Nat.le_trans hsz8 (hown15.from b off n cap e)
          have hr15 := hown15.row
          obtain ⟨go, gcap, rfl⟩ := hr15.of_len
          rw [HL1.out] at hr15 hfrom15 ⊢
          clear hrd hown15 hb9 hrx8 hK8
          go_wp2_with fail
          go_loop [17] (fun i => ∃ k : Nat, k ≤ 120 ∧ i = .int .i64 k) (fun i => 120 - (intOf i).toNat)
          case atStart => exact ⟨0, Nat.zero_le _, rfl⟩
          case round =>
            obtain ⟨k, hk, rfl⟩ := hrel
            by_cases hlt2 : k < 120
            · have hwant := HGOT.out k hlt2
              unfold wantS at hwant
              obtain ⟨gb, goff, gcap', hgv, _, _, hgc⟩ := hr15.at (List.length_pos_iff.1 (by rw [HL1.out]; omega))
              obtain ⟨rfl, rfl⟩ : go = some ⟨gb, goff, none⟩ ∧ gcap = gcap' := by rw [HL1.out] at hgv; simpa using hgv
              have hcg := hgc k (by rw [HL1.out]; exact hlt2)
              rw [getD_take _ _ _ hlt2] at hcg
              have hk120 : (k : Int) < 120 := by omega
              clear hgc hgv
              by_cases ha : k < la
              · by_cases hb : k < lb
                · by_cases hc1 : k < cut
                  · obtain ⟨ab, aoff, acap', hav, _, hablt, hac⟩ := HRA.out.at (List.length_pos_iff.1 (by rw [HLA.out]; omega))
                    obtain ⟨rfl, rfl⟩ : ao = some ⟨ab, aoff, none⟩ ∧ acap = acap' := by rw [HLA.out] at hav; simpa using hav
                    have hca : w9.cell? ⟨ab, aoff + k, none⟩ = some (.int .u8 (a.getD k 0)) := (hK9.below.cell (p := ⟨ab, aoff + k, none⟩) hablt).trans (hac k (by rw [HLA.out]; exact ha))
                    clear hav hac hablt
                    rw [show wasS a k = a.getD k 0 from if_pos (by rw [HLA.out]; exact ha)] at hwant
                    obtain ⟨xb, xoff, xcap', hxv, _, _, hxc⟩ := hrx9.at (List.length_pos_iff.1 (by rw [HXL.out]; omega))
                    obtain ⟨rfl, rfl⟩ : xo = some ⟨xb, xoff, none⟩ ∧ xcap = xcap' := by rw [HXL.out] at hxv; simpa using hxv
                    have hcx := hxc k (by rw [HXL.out]; exact hb)
                    clear hxv hxc
                    rw [if_pos (show k < x.length ∧ k < cut by rw [HXL.out]; omega)] at hwant
                    rw [hwant] at hcg
                    have hkc : ((k : Int) == (cut : Int)) = false := by rw [beq_eq_false_iff_ne]; omega
                    clear hwant
                    generalize a.getD k 0 = ya at *
                    generalize x.getD k 0 = yx at *
                    first
                      | (exfalso; omega)
                      | (go_wp2; exact ⟨⟨k + 1, by omega, by go_num⟩, by simp [intOf]; omega⟩)
                  · by_cases hc2 : k = cut
                    · obtain ⟨ab, aoff, acap', hav, _, hablt, hac⟩ := HRA.out.at (List.length_pos_iff.1 (by rw [HLA.out]; omega))
                      obtain ⟨rfl, rfl⟩ : ao = some ⟨ab, aoff, none⟩ ∧ acap = acap' := by rw [HLA.out] at hav; simpa using hav
                      have hca : w9.cell? ⟨ab, aoff + k, none⟩ = some (.int .u8 (a.getD k 0)) := (hK9.below.cell (p := ⟨ab, aoff + k, none⟩) hablt).trans (hac k (by rw [HLA.out]; exact ha))
                      clear hav hac hablt
                      rw [show wasS a k = a.getD k 0 from if_pos (by rw [HLA.out]; exact ha)] at hwant
                      obtain ⟨xb, xoff, xcap', hxv, _, _, hxc⟩ := hrx9.at (List.length_pos_iff.1 (by rw [HXL.out]; omega))
                      obtain ⟨rfl, rfl⟩ : xo = some ⟨xb, xoff, none⟩ ∧ xcap = xcap' := by rw [HXL.out] at hxv; simpa using hxv
                      have hcx := hxc k (by rw [HXL.out]; exact hb)
                      clear hxv hxc
                      rw [if_neg (show ¬ (k < x.length ∧ k < cut) by omega), if_pos (show k < x.length ∧ k = cut by rw [HXL.out]; omega)] at hwant
                      rw [hwant] at hcg
                      clear hwant
                      generalize a.getD k 0 = ya at *
                      generalize x.getD k 0 = yx at *
                      subst hc2
                      first
                        | (exfalso; omega)
                        | (go_wp2; exact ⟨⟨k + 1, by omega, by go_num⟩, by simp [intOf]; omega⟩)
                    · obtain ⟨ab, aoff, acap', hav, _, hablt, hac⟩ := HRA.out.at (List.length_pos_iff.1 (by rw [HLA.out]; omega))
                      obtain ⟨rfl, rfl⟩ : ao = some ⟨ab, aoff, none⟩ ∧ acap = acap' := by rw [HLA.out] at hav; simpa using hav
                      have hca : w9.cell? ⟨ab, aoff + k, none⟩ = some (.int .u8 (a.getD k 0)) := (hK9.below.cell (p := ⟨ab, aoff + k, none⟩) hablt).trans (hac k (by rw [HLA.out]; exact ha))
                      clear hav hac hablt
                      rw [show wasS a k = a.getD k 0 from if_pos (by rw [HLA.out]; exact ha)] at hwant
                      obtain ⟨xb, xoff, xcap', hxv, _, _, hxc⟩ := hrx9.at (List.length_pos_iff.1 (by rw [HXL.out]; omega))
                      obtain ⟨rfl, rfl⟩ : xo = some ⟨xb, xoff, none⟩ ∧ xcap = xcap' := by rw [HXL.out] at hxv; simpa using hxv
                      have hcx := hxc k (by rw [HXL.out]; exact hb)
                      clear hxv hxc
                      rw [if_neg (show ¬ (k < x.length ∧ k < cut) by omega), if_neg (show ¬ (k < x.length ∧ k = cut) by omega)] at hwant
                      rw [hwant] at hcg
                      clear hwant
                      generalize a.getD k 0 = ya at *
                      generalize x.getD k 0 = yx at *
                      have hkc : ((k : Int) == (cut : Int)) = false := by rw [beq_eq_false_iff_ne]; omega
                      first
                        | (exfalso; omega)
                        | (go_wp2; exact ⟨⟨k + 1, by omega, by go_num⟩, by simp [intOf]; omega⟩)
                · obtain ⟨ab, aoff, acap', hav, _, hablt, hac⟩ := HRA.out.at (List.length_pos_iff.1 (by rw [HLA.out]; omega))
                  obtain ⟨rfl, rfl⟩ : ao = some ⟨ab, aoff, none⟩ ∧ acap = acap' := by rw [HLA.out] at hav; simpa using hav
                  have hca : w9.cell? ⟨ab, aoff + k, none⟩ = some (.int .u8 (a.getD k 0)) := (hK9.below.cell (p := ⟨ab, aoff + k, none⟩) hablt).trans (hac k (by rw [HLA.out]; exact ha))
                  clear hav hac hablt
                  rw [show wasS a k = a.getD k 0 from if_pos (by rw [HLA.out]; exact ha)] at hwant
                  rw [if_neg (show ¬ (k < x.length ∧ k < cut) by rw [HXL.out]; omega), if_neg (show ¬ (k < x.length ∧ k = cut) by rw [HXL.out]; omega)] at hwant
                  rw [hwant] at hcg
                  clear hwant
                  generalize a.getD k 0 = ya at *
                  first
                    | (exfalso; omega)
                    | (go_wp2; exact ⟨⟨k + 1, by omega, by go_num⟩, by simp [intOf]; omega⟩)
              · by_cases hb : k < lb
                · by_cases hc1 : k < cut
                  · rw [show wasS a k = 255 from if_neg (by rw [HLA.out]; exact ha)] at hwant
                    obtain ⟨xb, xoff, xcap', hxv, _, _, hxc⟩ := hrx9.at (List.length_pos_iff.1 (by rw [HXL.out]; omega))
                    obtain ⟨rfl, rfl⟩ : xo = some ⟨xb, xoff, none⟩ ∧ xcap = xcap' := by rw [HXL.out] at hxv; simpa using hxv
                    have hcx := hxc k (by rw [HXL.out]; exact hb)
                    clear hxv hxc
                    rw [if_pos (show k < x.length ∧ k < cut by rw [HXL.out]; omega)] at hwant
                    rw [hwant] at hcg
                    have hkc : ((k : Int) == (cut : Int)) = false := by rw [beq_eq_false_iff_ne]; omega
                    clear hwant
                    generalize x.getD k 0 = yx at *
                    first
                      | (exfalso; omega)
                      | (go_wp2; exact ⟨⟨k + 1, by omega, by go_num⟩, by simp [intOf]; omega⟩)
                  · by_cases hc2 : k = cut
                    · rw [show wasS a k = 255 from if_neg (by rw [HLA.out]; exact ha)] at hwant
                      obtain ⟨xb, xoff, xcap', hxv, _, _, hxc⟩ := hrx9.at (List.length_pos_iff.1 (by rw [HXL.out]; omega))
                      obtain ⟨rfl, rfl⟩ : xo = some ⟨xb, xoff, none⟩ ∧ xcap = xcap' := by rw [HXL.out] at hxv; simpa using hxv
                      have hcx := hxc k (by rw [HXL.out]; exact hb)
                      clear hxv hxc
                      rw [if_neg (show ¬ (k < x.length ∧ k < cut) by omega), if_pos (show k < x.length ∧ k = cut by rw [HXL.out]; omega)] at hwant
                      rw [hwant] at hcg
                      clear hwant
                      generalize x.getD k 0 = yx at *
                      subst hc2
                      first
                        | (exfalso; omega)
                        | (go_wp2; exact ⟨⟨k + 1, by omega, by go_num⟩, by simp [intOf]; omega⟩)
                    · rw [show wasS a k = 255 from if_neg (by rw [HLA.out]; exact ha)] at hwant
                      obtain ⟨xb, xoff, xcap', hxv, _, _, hxc⟩ := hrx9.at (List.length_pos_iff.1 (by rw [HXL.out]; omega))
                      obtain ⟨rfl, rfl⟩ : xo = some ⟨xb, xoff, none⟩ ∧ xcap = xcap' := by rw [HXL.out] at hxv; simpa using hxv
                      have hcx := hxc k (by rw [HXL.out]; exact hb)
                      clear hxv hxc
                      rw [if_neg (show ¬ (k < x.length ∧ k < cut) by omega), if_neg (show ¬ (k < x.length ∧ k = cut) by omega)] at hwant
                      rw [hwant] at hcg
                      clear hwant
                      generalize x.getD k 0 = yx at *
                      have hkc : ((k : Int) == (cut : Int)) = false := by rw [beq_eq_false_iff_ne]; omega
                      first
                        | (exfalso; omega)
                        | (go_wp2; exact ⟨⟨k + 1, by omega, by go_num⟩, by simp [intOf]; omega⟩)
                · rw [show wasS a k = 255 from if_neg (by rw [HLA.out]; exact ha)] at hwant
                  rw [if_neg (show ¬ (k < x.length ∧ k < cut) by rw [HXL.out]; omega), if_neg (show ¬ (k < x.length ∧ k = cut) by rw [HXL.out]; omega)] at hwant
                  rw [hwant] at hcg
                  clear hwant
                  first
                    | (exfalso; omega)
                    | (go_wp2; exact ⟨⟨k + 1, by omega, by go_num⟩, by simp [intOf]; omega⟩)
            · obtain rfl : k = 120 := by omega
              have hpg3 := Program_any base w9 L S2 { N with bs := bs2 } 200 hK9.dev hN2.1 hN2.2 (by omega) 0 (by decide) (.slice go 120 gcap) (bs2.take 120) hr15 (by rw [HL1.out]; omega) (hK9.apart hfrom15)
              simp only at hpg3
              rw [HP3.out] at hpg3
              go_wp2_with fail
              refine hpg3.mono ?_
              rintro e w10 ⟨rfl, hD10, hO10⟩
              have hK10 := hK9.turn hD10 (hO10.wide (by simp))
              have hr10 := hK9.rowKept hfrom15 hr15 (hO10.wide (by simp))
              clear hpg3 hD10 hO10 hK9 hr15 hrx9
              go_wp2_with fail
              refine (OnN_any base w10 L.pb S3 hK10.dev.1).mono ?_
              rintro e w11 ⟨rfl, hP11, hg11⟩
              have hK11 := hK10.pow hP11 hg11
              have hr11 := hK10.rowKept hfrom15 hr10 (only_grown hg11 (fun k e => by cases e; simp))
              clear hP11 hg11 hK10 hr10
              go_wp2_with fail
              refine (CutN_any base w11 L.pb S3.on 0 mask hK11.dev.1).mono ?_
              rintro e w12 ⟨rfl, hP12, hg12⟩
              have hK12 := hK11.pow hP12 hg12
              have hr12 := hK11.rowKept hfrom15 hr11 (only_grown hg12 (fun k e => by cases e; simp))
              have her := Erase_any base w12 L (S3.on.cut 0 mask) { N with bs := bs2 } 400 hK12.dev hS4 (hN2.2.more (by omega)) (by omega) 0
              rw [HE.out] at her
              clear hP12 hg12 hK11 hr11
              go_wp2_with fail
              refine her.mono ?_
              rintro e w13 ⟨rfl, hD13, hO13⟩
              have hK13 := hK12.turn hD13 hO13
              have hr13 := hK12.rowKept hfrom15 hr12 hO13
              have okE := (hN2.2.bytes (xs := fill bs2 0 mask N.B) (fill_length _ _ _ _) (fill_bys hN2.2.bys _ _ _))
              have hrd2 := Read_any base w13 L { N with bs := fill bs2 0 mask N.B } 200 hK13.dev.2 okE 0 120 (by decide) (by decide)
              simp only at hrd2
              rw [HR3.out] at hrd2
              clear her hD13 hO13 hK12 hr12
              go_wp2_with fail
              refine hrd2.mono ?_
              rintro e w14 ⟨v23, rfl, hown23, hb14⟩
              have hK14 := hK13.below' hb14
              have hr14 := hr13.below hb14
              have hr23 := hown23.row
              obtain ⟨ho, hcap, rfl⟩ := hr23.of_len
              rw [HL2.out] at hr23 ⊢
              clear hrd2 hown23 hb14 hr13 hK13
              go_wp2_with fail
              go_loopw [25] (fun i wr => ∃ k : Nat, k ≤ 120 ∧ i = .int .i64 k ∧ Only [] w14 wr) (fun i _ => 120 - (intOf i).toNat)
              case atStart => exact ⟨0, Nat.zero_le _, rfl, Only.refl _ _⟩
              case round =>
                obtain ⟨q, hq, rfl, hon⟩ := hrel
                by_cases hlt3 : q < 120
                · have hg3 := HGOT3.out q hlt3
                  have hr14' := hr14.only hon (by simp)
                  have hr23' := hr23.only hon (by simp)
                  obtain ⟨gb, goff, gcap', hgv, _, _, hgc⟩ := hr14'.at (List.length_pos_iff.1 (by rw [HL1.out]; omega))
                  obtain ⟨rfl, rfl⟩ : go = some ⟨gb, goff, none⟩ ∧ gcap = gcap' := by rw [HL1.out] at hgv; simpa using hgv
                  have hcg := hgc q (by rw [HL1.out]; exact hlt3)
                  rw [getD_take _ _ _ hlt3] at hcg
                  obtain ⟨eb', eoff, ecap, hev, _, _, hec⟩ := hr23'.at (List.length_pos_iff.1 (by rw [HL2.out]; omega))
                  obtain ⟨rfl, rfl⟩ : ho = some ⟨eb', eoff, none⟩ ∧ hcap = ecap := by rw [HL2.out] at hev; simpa using hev
                  have hce := hec q (by rw [HL2.out]; exact hlt3)
                  rw [getD_take _ _ _ hlt3, hg3] at hce
                  have hq120 : (q : Int) < 120 := by omega
                  have hne : (bits .or .u8 (bs2.getD q 0) mask != bits .or .u8 (bs2.getD q 0) mask) = false := bne_self_eq_false _
                  clear hgc hec hgv hev hg3 hr14' hr23'
                  generalize bs2.getD q 0 = y at *
                  go_wp2_with fail
                  go_quiet (fail)
                  go_wp2
                  exact ⟨⟨q + 1, by omega, by go_num, hon.trans (only_drewN _ _)⟩, by simp [intOf]; omega⟩
                · obtain rfl : q = 120 := by omega
                  have hKe := hK14.still hon
                  have hes := Erases_any base _ L { N with bs := fill bs2 0 mask N.B } 200 hKe.dev.2 okE 0
                  simp only at hes
                  rw [show (if 0 ≤ (0 : Int) ∧ (0 : Int) < (N.A : Int) then N.er.getD ((0 : Int)).toNat 0 else 0) = 0 from by rw [if_pos (by omega)]; exact HER.out] at hes
                  have hfin := hKe.below
                  go_wp2_with fail
                  refine hes.mono ?_
                  rintro e w15 ⟨rfl, rfl⟩
                  go_wp2
                  go_ret
                  exact ⟨rfl, hfin⟩
end Go.Proofs.Ytnlfhapnclfonaa
