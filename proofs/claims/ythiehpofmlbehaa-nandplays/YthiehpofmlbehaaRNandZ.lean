/-
  The document's own chip of pages: Program.
-/
import Derived.Test.YthiehpofmlbehaaRNandY
namespace Go.Proofs.Ythiehpofmlbehaa
open Go.RowKit
set_option linter.unusedVariables false
set_option maxRecDepth 100000

theorem splice_nil (L : List Int) (p : Nat) : splice L p [] = L := by simp [splice]
theorem splice_set {L ys : List Int} {p k : Nat} (h : p + ys.length ≤ L.length) (hk : k < ys.length) : (splice L p (ys.take k)).set (p + k) (ys.getD k 0) = splice L p (ys.take (k + 1)) := by
  have l1 : (ys.take k).length = k := by simp; omega
  have l2 : (ys.take (k + 1)).length = k + 1 := by simp; omega
  have e1 : (splice L p (ys.take k)).length = L.length := length_splice _ _ _ (by rw [l1]; omega)
  have e2 : (splice L p (ys.take (k + 1))).length = L.length := length_splice _ _ _ (by rw [l2]; omega)
  refine list_ext5 (by rw [List.length_set, e1, e2]) (fun j hj => ?_)
  rw [List.length_set, e1] at hj
  rw [getD_set, e1, splice_at (by rw [l1]; omega), splice_at (by rw [l2]; omega), l1, l2]
  by_cases hq : p + k = j
  · rw [if_pos ⟨hq, by omega⟩, if_pos (by omega), show j - p = k by omega]
    simp [List.getD]
  · rw [if_neg (fun e => hq e.1)]
    by_cases hr : p ≤ j ∧ j < p + k
    · rw [if_pos hr, if_pos (by omega)]
      simp only [List.getD, List.getElem?_take]
      rw [if_pos (by omega), if_pos (by omega)]
    · rw [if_neg hr, if_neg (by omega)]
/-- What a program leaves of the bytes. -/
def turnY (done torn fl : Bool) (m : Int) (x : Int) : Int := if torn then bits .or .u8 x m else if fl then bits .and .u8 x 170 else x

set_option maxHeartbeats 2000000 in
theorem RProgram5_any (w : World) (M : RLy) (v : Value) (S : PSt) (N : DSt) (n : Nat) (h : RNDev w M v S N) (okS : S.Ok n) (ok : N.Ok n) (hn : n < 900000) (b p : Int) (dv sv : Value) (d s : List Int) (hd : Row w dv d) (hs : Row w sv s)
    (hdn' : 0 < d.length → ∀ b off n cap, dv = .slice (some ⟨b, off, none⟩) n cap → b ∉ M.all) (hsn' : 0 < s.length → ∀ b off n cap, sv = .slice (some ⟨b, off, none⟩) n cap → b ∉ M.all) :
    Calls Try.prog 22 #[.pointer (some ⟨M.c, 0, none⟩), .int .i64 b, .int .i64 p, dv, sv] w fun e w' =>
      e = .returned (.int .i64 (progD S N b p d s).1) ∧ RNDev w' M v (progD S N b p d s).2.1 (progD S N b p d s).2.2 ∧ Only M.all w w' := by
  have hdl := hd.len
  have hsl := hs.len
  unfold maxLen at hdl hsl
  obtain ⟨ao, acap, rfl⟩ := hd.of_len
  obtain ⟨bo, bcap, rfl⟩ := hs.of_len
  by_cases h0 : isP N b p = true
  · have hu := isP_of h0
    obtain ⟨i, rfl⟩ := Int.eq_ofNat_of_zero_le hu.1.1
    obtain ⟨k, rfl⟩ := Int.eq_ofNat_of_zero_le hu.2.1
    have hi : i < N.C := by omega
    have hk : k < N.D := by omega
    have hpg := Rpage_at w M N n h.chip ok i k hi hk
    have hle := ok.at_le hi hk
    have hPb : (i * N.D + k) * (N.E + 16) ≤ 557056 := by have := ok.big; have := ok.len; unfold DSt.at at hle; omega
    have c4 : ∀ w1, RNDev w1 M v S N → w1.cell? ⟨M.c, 4, none⟩ = some (.int .i64 N.E) := fun w1 h1 => (h1.chip.blk.cell 4).trans rfl
    have HN := hide h
    have HC4 := hide c4
    have HPG := hide hpg
    by_cases hlen : d.length = N.E ∧ s.length = 16
    · obtain ⟨hdE, hs16⟩ := hlen
      have hr : progD S N i k d s = if (k : Int) = N.nx.getD i 0 then (if S.step.1 then (if S.step.2.2.failed then (7, S.step.2.2, N.put i k ((d ++ s).map (fun x => bits .and .u8 x 170))) else (0, S.step.2.2, N.put i k (d ++ s))) else if S.step.2.1 then (6, S.step.2.2, N.put i k ((d ++ s).map (fun x => bits .or .u8 x S.step.2.2.mask))) else (6, S.step.2.2, N)) else (8, S, N) := by
        unfold progD; rw [h0, decide_eq_true hdE, decide_eq_true hs16]; simp
      have hnl := ok.nl
      have hE1 := ok.E1
      have hC1 := ok.C1
      have hD1 := ok.D1
      have hnx := ok.nxAt hi
      have hi2 : (i : Int) < N.C := by omega
      have HOK := hide ok
      have hdb := hd.bys.app hs.bys
      have hml : (d ++ s).length = N.E + 16 := by rw [List.length_append, hdE, hs16]
      unfold DSt.put at hr
      unfold DSt.at at hle hr
      generalize (i * N.D + k) * (N.E + 16) = P at *
      have hcell : ∀ w1 S1, RNDev w1 M v S1 N → (w1.cell? ⟨M.c, 4, none⟩ = some (.int .i64 N.E) ∧ w1.cell? ⟨M.c, 5, none⟩ = some (.pointer (some ⟨M.pb, 0, none⟩)) ∧ w1.cell? ⟨M.c, 7, none⟩ = some (.slice (some ⟨M.nb, 0, none⟩) N.C N.C)) ∧ w1.cell? ⟨M.nb, i, none⟩ = some (.int .i64 (N.nx.getD i 0)) ∧ w1.frozen? ⟨M.nb, i, none⟩ = false := fun w1 S1 h1 => ⟨⟨(h1.chip.blk.cell 4).trans rfl, (h1.chip.blk.cell 5).trans rfl, h1.chip.ncell⟩, h1.chip.nextAt (by rw [hnl]; exact hi), h1.chip.nxt.frozen i⟩
      have HCELL := hide hcell
      obtain ⟨x0, hx0⟩ : ∃ x, N.nx.getD i 0 = x := ⟨_, rfl⟩
      have HX0 := hide hx0
      rw [hx0] at hr hnx
      have hP0 : ¬ ((P : Int) < 0) := by omega
      have hdn := hdn' (by have := ok.E0; omega)
      have hsn := hsn' (by omega)
      clear hdn' hsn'
      rw [hdE] at hd hdn ⊢
      rw [hs16] at hs hsn ⊢
      have HD := hide hd
      have HSR := hide hs
      have HDE := hide hdE
      have HS16 := hide hs16
      have hne1 : ((N.E : Int) != (N.E : Int)) = false := by simp
      have HU := hide h.under
      clear hcell hdE hs16 hd hs hpg c4 hx0 hu h0 ok
      by_cases hkx : (k : Int) = x0
      · rw [if_pos hkx] at hr
        obtain ⟨⟨done, torn, S'⟩, hS'⟩ : ∃ q, S.step = q := ⟨_, rfl⟩
        have hnb : done = true → torn = false := fun e => by
          have := hS'
          unfold PSt.step at this
          split at this
          · cases this; cases e
          · split at this
            · cases this; cases e
            · cases this; rfl
        have okS' := okS.step
        have hfl : S'.fails = S.fails := by have := step_fails S; rw [hS'] at this; exact this
        rw [hS'] at hr okS'
        simp only at hr okS'
        have hst := fun w' (hp : RPowX w' M.pb v S) => RStepX_any w' M.pb v S n hp okS (by omega)
        rw [hS'] at hst
        simp only at hst
        have hkx' : ((k : Int) != x0) = false := by simpa using hkx
        have HFL := hide hfl
        have HHR := hide hkx
        clear hS' hkx hfl
        have hmode : (done = false ∧ torn = false) ∨ ((done = true ∧ torn = false) ∧ S'.failed = true) ∨ ((done = true ∧ torn = false) ∧ S'.failed = false) ∨ (done = false ∧ torn = true) := by
          cases done with
          | true =>
            have := hnb rfl
            subst this
            cases S'.failed <;> simp
          | false => cases torn <;> simp
        clear hnb
        rcases hmode with ⟨rfl, rfl⟩ | ⟨⟨rfl, rfl⟩, hf⟩ | ⟨⟨rfl, rfl⟩, hf⟩ | ⟨rfl, rfl⟩
        case inl =>
          simp only [if_false, Bool.false_eq_true] at hr
          rw [hr]
          go_enter Try.func22, Try.ntmps22
          go_wp2_with fail
          refine Calls.mono HPG.out ?_
          rintro e w1 ⟨rfl, hO1⟩
          have hd1 := HN.out.still hO1
          obtain ⟨⟨d4, d5, d7⟩, n1, nf⟩ := HCELL.out w1 S hd1
          rw [HX0.out] at n1
          go_wp2_with fail
          refine (hst w1 hd1.pow).mono ?_
          rintro e w2 ⟨rfl, hP2, hg2⟩
          have hd2 := hd1.step hP2 HFL.out hg2
          have hO : Only M.all w w2 := (hO1.wide (by simp)).trans (only_grown hg2 (fun k e => by cases e; simp [RLy.all]))
          go_wp2
          go_ret
          exact ⟨rfl, hd2, hO⟩
        case' inr.inl =>
          rw [hf] at hr
          simp only [if_true] at hr
          obtain ⟨ys, hys⟩ : ∃ ys, (d ++ s).map (fun x => bits .and .u8 x 170) = ys := ⟨_, rfl⟩
          rw [hys] at hr
          have hyl : ys.length = N.E + 16 := by rw [← hys, List.length_map]; exact hml
          have hya : ∀ j, j < N.E + 16 → ys.getD j 0 = bits .and .u8 ((d ++ s).getD j 0) 170 := fun j hj => by rw [← hys, getD_map _ _ _ (by rw [hml]; exact hj)]
          have hyb : Bys ys := by rw [← hys]; exact turn_bys _ _ hdb
        case' inr.inr.inl =>
          rw [hf] at hr
          simp only [if_true, if_false, Bool.false_eq_true] at hr
          obtain ⟨ys, hys⟩ : ∃ ys, d ++ s = ys := ⟨_, rfl⟩
          rw [hys] at hr
          have hyl : ys.length = N.E + 16 := by rw [← hys]; exact hml
          have hya : ∀ j, j < N.E + 16 → ys.getD j 0 = (d ++ s).getD j 0 := fun j hj => by rw [hys]
          have hyb : Bys ys := by rw [← hys]; exact hdb
        case' inr.inr.inr =>
          simp only [if_true, if_false, Bool.false_eq_true] at hr
          obtain ⟨ys, hys⟩ : ∃ ys, (d ++ s).map (fun x => bits .or .u8 x S'.mask) = ys := ⟨_, rfl⟩
          rw [hys] at hr
          have hyl : ys.length = N.E + 16 := by rw [← hys, List.length_map]; exact hml
          have hya : ∀ j, j < N.E + 16 → ys.getD j 0 = bits .or .u8 ((d ++ s).getD j 0) S'.mask := fun j hj => by rw [← hys, getD_map _ _ _ (by rw [hml]; exact hj)]
          have hyb : Bys ys := by rw [← hys]; exact turn_bys _ _ hdb
        all_goals
          rw [hr]
          have HYL := hide hyl
          have HYA := hide hya
          have HYB := hide hyb
          have HML := hide hml
          have HLE := hide hle
          clear hr hys hyl hya hyb hml hle hdb
          go_enter Try.func22, Try.ntmps22
          go_wp2_with fail
          refine Calls.mono HPG.out ?_
          rintro e w1 ⟨rfl, hO1⟩
          have hd1 := HN.out.still hO1
          obtain ⟨⟨d4, d5, d7⟩, n1, nf⟩ := HCELL.out w1 S hd1
          rw [HX0.out] at n1
          go_wp2_with fail
          refine (hst w1 hd1.pow).mono ?_
          rintro e w2 ⟨rfl, hP2, hg2⟩
          have hd2 := hd1.step hP2 HFL.out hg2
          have hO2 : Only M.all w w2 := (hO1.wide (by simp)).trans (only_grown hg2 (fun k e => by cases e; simp [RLy.all]))
          clear hst hd1 hP2 hg2 d4 d5 d7 n1 nf hO1
          obtain ⟨⟨d4, d5, d7⟩, n1, nf⟩ := HCELL.out w2 S' hd2
          rw [HX0.out] at n1
          have R3 := hd2.setN i (x0 + 1)
          have G3 := hO2.trans (only_setCell w2 M.nb i (.int .i64 (x0 + 1)) M.all (by simp [RLy.all]))
          clear hd2 hO2
          go_upto_region 10 with fail
          generalize w2.setCell ⟨M.nb, i, none⟩ (.int .i64 (x0 + 1)) = w3 at *
          clear d4 d5 d7 n1 nf
          have hsz3 : w.heap.size ≤ w3.heap.size := G3.size
          have hrd3 := HD.out.only G3 hdn
          have hrs3 := HSR.out.only G3 hsn
          go_wp2_with (at_builtin; refine wpList_append_row rfl _ _ rfl w.heap.size _ _ [] d rfl (Own.nil _ _) rfl hrd3 (by rw [List.length_nil, HDE.out]; omega) hsz3 ?_)
          intro v4 w4 ho4 hg4
          try rw [List.nil_append] at ho4
          have hO34 : Only [] w3 w4 := only_grown hg4 (fun k e => by cases e)
          have R4 := R3.still hO34
          have G4 := G3.past hO34 (by simp)
          have hrs4 := hrs3.only hO34 (by simp)
          have hsz4 : w.heap.size ≤ w4.heap.size := G4.size
          clear hg4 hrd3 hrs3 R3 G3 hO34 hsz3
          go_wp2_with (at_builtin; refine wpList_append_row rfl _ _ rfl w.heap.size _ _ d s rfl ho4 rfl hrs4 (by rw [HDE.out, HS16.out]; omega) hsz4 ?_)
          intro v5 w5 ho5 hg5
          have hO45 : Only v4.ownBlock.toList w4 w5 := only_grown hg5 (fun k e => by simp [e])
          have hl45 : ∀ q ∈ v4.ownBlock.toList, w.heap.size ≤ q := fun q hq => (ho4.block q (by simpa using hq)).1
          have R5 := R4.past (by rw [HFL.out]; exact HU.out) hO45 hl45
          have G5 := G4.past hO45 (fun q hq => .inr (hl45 q hq))
          clear hg5 ho4 hrs4 R4 G4 hO45 hl45 hsz4
          obtain ⟨g, acp, rfl, hg1, hg2, _⟩ := ho5.form (by rw [HML.out]; omega)
          rw [HML.out] at ho5 ⊢
          have d5 : w5.cell? ⟨M.c, 5, none⟩ = some (.pointer (some ⟨M.pb, 0, none⟩)) := (R5.chip.blk.cell 5).trans rfl
          have hbbl : M.bb < w.heap.size := HU.out.1.2.2.1
        all_goals first
          | (have hf2 := hf
             go_wp2_with fail
             refine (RFailsX_any w5 M.pb v S' (n + 1) R5.pow okS' (by omega)).mono ?_
             rintro e w6 ⟨rfl, hg6⟩
             rw [hf]
             have hO56 : Only [] w5 w6 := only_grown hg6 (by simp)
             have R6 := R5.still hO56
             have G6 := G5.past hO56 (by simp)
             have ho6 := ho5.only hO56 (by simp)
             clear hg6 hO56 R5 G5 ho5 d5 hf2)
          | (have R6 := R5
             have G6 := G5
             have ho6 := ho5
             clear R5 G5 ho5 d5
             generalize w5 = w6 at *)
        all_goals
          have HR6 := hide R6
          clear R6
          go_wp2_with fail
          go_loopw [16, 17] (fun t _ wr => ∃ j : Nat, j ≤ N.E + 16 ∧ t = .int .i64 j ∧ RNDev wr M v S' { N with bs := splice N.bs P (ys.take j), nx := N.nx.set i (x0 + 1) } ∧ Own w.heap.size wr (.slice (some ⟨g, 0, none⟩) (N.E + 16) acp) (d ++ s) ∧ Only M.all w wr) (fun t _ _ => N.E + 16 - (intOf t).toNat)
          case atStart => exact ⟨0, Nat.zero_le _, rfl, by rw [List.take_zero, splice_nil]; exact HR6.out, ho6, G6⟩
          case round =>
            clear ho6 G6 HR6
            obtain ⟨j, hj, rfl, hdev, hown, hon⟩ := hrel
            by_cases hlt : j < N.E + 16
            · have hle := HLE.out
              have hsl' : (splice N.bs P (ys.take j)).length = N.bs.length := length_splice _ _ _ (by rw [List.length_take, HYL.out]; omega)
              obtain ⟨q, hq⟩ : ∃ q, P + j = q := ⟨_, rfl⟩
              have d5 : wr.cell? ⟨M.c, 5, none⟩ = some (.pointer (some ⟨M.pb, 0, none⟩)) := (hdev.chip.blk.cell 5).trans rfl
              have d6 := hdev.chip.bcell
              have hmk := hdev.mask
              obtain ⟨db, df⟩ := hdev.chip.byteAt (j := q) (by simp only; rw [hsl']; omega)
              have e1 := hown.cellAt HML.out j hlt
              have hyj := HYA.out j hlt
              have hyr := HYB.out.at j
              simp only at d6 db
              rw [hsl'] at d6
              have R : RNDev (wr.setCell ⟨M.bb, q, none⟩ (.int .u8 (ys.getD j 0))) M v S' { N with bs := splice N.bs P (ys.take (j + 1)), nx := N.nx.set i (x0 + 1) } := by
                rw [← splice_set (by rw [HYL.out]; exact hle) (by rw [HYL.out]; exact hlt), hq]
                exact hdev.setB q _ hyr
              have hO := only_setCell wr M.bb q (.int .u8 (ys.getD j 0)) [M.bb] (by simp)
              have HOW := hown.only hO (fun k e hm => by
                have := (hown.block k e).1
                simp at hm
                omega)
              have G := hon.trans (only_setCell wr M.bb q (.int .u8 (ys.getD j 0)) M.all (by simp [RLy.all]))
              rw [hyj] at R HOW G
              have HR := hide R
              have HG := hide G
              have HOW' := hide HOW
              have hwq : IntKind.i64.wrap ((P : Int) + (j : Int)) = (q : Int) := by rw [IntKind.wrap_i64]; omega
              have hql : q < N.bs.length := by omega
              have hlt' : (j : Int) < (N.E : Int) + 16 := by omega
              clear R G HOW hdev hown hon hq hyj hyr hO hsl' hle
              generalize (d ++ s).getD j 0 = yv at *
              generalize (splice N.bs P (ys.take j)).getD q 0 = zv at *
              go_wp2
              exact ⟨⟨j + 1, by omega, by go_num, HR.out, HOW'.out, HG.out⟩, by simp [intOf]; omega⟩
            · obtain rfl : j = N.E + 16 := by omega
              have HRF : Hid (RNDev wr M v S' { N with bs := splice N.bs P ys, nx := N.nx.set i (x0 + 1) }) := by
                rw [List.take_of_length_le (by rw [HYL.out]; exact Nat.le_refl _)] at hdev
                exact hdev
              have hge : ¬ ((N.E : Int) + 16 < (N.E : Int) + 16) := by omega
              clear hdev hown hlt
              go_wp2
              go_ret
              exact ⟨rfl, HRF.out, hon⟩
      · rw [if_neg hkx] at hr
        rw [hr]
        have hkx' : ((k : Int) != x0) = true := by simpa using hkx
        clear hr hkx
        go_enter Try.func22, Try.ntmps22
        go_wp2_with fail
        refine Calls.mono HPG.out ?_
        rintro e w1 ⟨rfl, hO1⟩
        have hd1 := HN.out.still hO1
        obtain ⟨⟨d4, d5, d7⟩, n1, nf⟩ := HCELL.out w1 S hd1
        rw [HX0.out] at n1
        go_wp2
        go_ret
        exact ⟨rfl, hd1, hO1.wide (by simp)⟩
    · have hr : progD S N i k d s = (1, S, N) := by
        unfold progD
        rw [h0]
        by_cases h1 : d.length = N.E
        · rw [decide_eq_false (show ¬ s.length = 16 from fun e => hlen ⟨h1, e⟩)]; simp
        · rw [decide_eq_false h1]; simp
      rw [hr]
      have hE := ok.E1
      unfold DSt.at at hle
      generalize (i * N.D + k) * (N.E + 16) = P at *
      generalize d.length = ld at *
      generalize s.length = ls at *
      have hcase : ((ld : Int) != (N.E : Int)) = true ∨ (((ld : Int) != (N.E : Int)) = false ∧ ((ls : Int) != 16) = true) := by
        by_cases h1 : ld = N.E
        · exact .inr ⟨by simp [h1], by have : ¬ ls = 16 := fun e => hlen ⟨h1, e⟩; simp; omega⟩
        · exact .inl (by simp; omega)
      clear hr hlen hd hs h ok okS h0 hu hi hk hpg c4 hle hdn' hsn'
      rcases hcase with h1 | ⟨h1, h2⟩
      all_goals
        go_enter Try.func22, Try.ntmps22
        go_wp2_with fail
        refine Calls.mono HPG.out ?_
        rintro e w1 ⟨rfl, hO1⟩
        have hd1 := HN.out.still hO1
        have d4 := HC4.out w1 hd1
        have hP0 : ¬ ((P : Int) < 0) := by omega
        go_wp2
        go_ret
        exact ⟨rfl, hd1, hO1.wide (by simp)⟩
  · have h0' : isP N b p = false := by simpa using h0
    have hr : progD S N b p d s = (1, S, N) := by unfold progD; rw [h0']; rfl
    rw [hr]
    have hpg := Rpage_none w M N n h.chip ok b p h0'
    generalize d.length = ld at *
    generalize s.length = ls at *
    clear hr h0 h0' hd hs hdn' hsn'
    go_enter Try.func22, Try.ntmps22
    go_wp2_with fail
    refine hpg.mono ?_
    rintro e w1 ⟨rfl, rfl⟩
    go_wp2
    go_ret
    exact ⟨rfl, h, Only.refl _ _⟩
end Go.Proofs.Ythiehpofmlbehaa
