/-
  The document's own chip of pages: Erase.
-/
import Derived.Test.YthiehpofmlbehaaRNandX
import Derived.Deep.CutBlock
import Derived.Deep.DeepCutAuto
namespace Go.Proofs.Ythiehpofmlbehaa
open Go.RowKit
set_option linter.unusedVariables false
set_option maxRecDepth 100000

theorem only_drewY (w : World) : Only [] w w.drew := only_grown (grown_drew w none) (by simp)
theorem only_drewNY (w : World) (m : Nat) : Only [] w (w.drewN m) := only_grown (grown_drewN w m none) (by simp)
theorem RNDev.bytesEq {w : World} {M : RLy} {v : Value} {S : PSt} {N : DSt} {xs ys : List Int} (h : RNDev w M v S { N with bs := xs }) (e : xs = ys) : RNDev w M v S { N with bs := ys } := e ▸ h
theorem fill_succY (bs : List Int) (p : Nat) (m : Int) (n : Nat) : fill bs p m (n + 1) = (fill bs p m n).set (p + n) (bits .or .u8 ((fill bs p m n).getD (p + n) 0) m) := rfl
theorem isP_zero {N : DSt} {n : Nat} (ok : N.Ok n) {b : Int} (h : isB N b = false) : isP N b 0 = false := by
  simp [isB] at h
  simp [isP]
  omega

set_option maxHeartbeats 2000000 in
theorem RErase5_any (w : World) (M : RLy) (v : Value) (S : PSt) (N : DSt) (n : Nat) (h : RNDev w M v S N) (okS : S.Ok n) (ok : N.Ok n) (hn : n < 900000) (b : Int) :
    Calls Try.prog 14 #[.pointer (some ⟨M.c, 0, none⟩), .int .i64 b] w fun e w' =>
      e = .returned (.int .i64 (eraseD S N b).1) ∧ RNDev w' M v (eraseD S N b).2.1 (eraseD S N b).2.2 ∧ Only M.all w w' := by
  by_cases h0 : isB N b = true
  · have hu := isB_of h0
    obtain ⟨i, rfl⟩ := Int.eq_ofNat_of_zero_le hu.1
    have hi : i < N.C := by omega
    have hD := ok.D0
    have hpg := Rpage_at w M N n h.chip ok i 0 hi (by omega)
    have hbl := DSt.block_le ok hi
    have hE : eraseD S N (i : Int) = if S.step.1 then (if S.step.2.2.failed then (7, S.step.2.2, N) else (0, S.step.2.2, (N.wipe i 255).count i)) else if S.step.2.1 then (6, S.step.2.2, N.wipe i S.step.2.2.mask) else (6, S.step.2.2, N) := by
      unfold eraseD; rw [h0]; rfl
    have hbig := ok.big
    have hlen := ok.len
    have hE1 := ok.E1
    have hE0 := ok.E0
    have hD1 := ok.D1
    have hC1 := ok.C1
    have hnl := ok.nl
    have hel := ok.el
    have hbys := ok.bys
    have her := ok.erAt hi
    have hmul : (N.D : Int) * ((N.E : Int) + 16) = ((N.D * (N.E + 16) : Nat) : Int) := by simp
    unfold DSt.wipe at hE
    unfold DSt.at at hbl hE
    generalize (i * N.D + 0) * (N.E + 16) = P at *
    obtain ⟨T, hT⟩ : ∃ T, N.D * (N.E + 16) = T := ⟨_, rfl⟩
    rw [hT] at hmul hbl hE
    have hmw : IntKind.i64.wrap ((N.D : Int) * ((N.E : Int) + 16)) = (T : Int) := by rw [hmul]; rw [IntKind.wrap_i64]; omega
    have hPT : P + T ≤ 557056 := by omega
    obtain ⟨⟨done, torn, S'⟩, hS'⟩ : ∃ q, S.step = q := ⟨_, rfl⟩
    have hnb : done = true → torn = false := fun e => by
      have := hS'
      unfold PSt.step at this
      split at this
      · cases this; cases e
      · split at this
        · cases this; cases e
        · cases this; rfl
    have okS' := okS.step
    rw [hS'] at hE okS'
    simp only at hE okS'
    have hst := fun w' (hp : RPowX w' M.pb v S) => RStepX_any w' M.pb v S n hp okS (by omega)
    rw [hS'] at hst
    simp only at hst
    have hfl : S'.fails = S.fails := by have := step_fails S; rw [hS'] at this; exact this
    have HN := hide h
    have HPG := hide hpg
    have HOK := hide ok
    have hi2 : (i : Int) < N.C := by omega
    have HFL := fun m k => fill_length N.bs P m k
    have HFB := fun m k => (fill_bys hbys P m k)
    have HCE := hide (show ∀ (wr : World) (N2 : DSt), RChip wr M N2 → N2.A = N.A → N2.B = N.B → N2.C = N.C → N2.D = N.D → N2.E = N.E → (wr.cell? ⟨M.c, 3, none⟩ = some (.int .i64 N.D) ∧ wr.cell? ⟨M.c, 4, none⟩ = some (.int .i64 N.E) ∧ wr.cell? ⟨M.c, 5, none⟩ = some (.pointer (some ⟨M.pb, 0, none⟩)) ∧ wr.cell? ⟨M.c, 6, none⟩ = some (.slice (some ⟨M.bb, 0, none⟩) N2.bs.length M.bc)) from fun wr N2 hc h1 h2 h3 h4 h5 => ⟨by rw [← h4]; exact (hc.blk.cell 3).trans rfl, by rw [← h5]; exact (hc.blk.cell 4).trans rfl, (hc.blk.cell 5).trans rfl, (hc.blk.cell 6).trans rfl⟩)
    have hne := h.chip.ne
    have HNE := hide hne
    clear hpg h ok h0 hu hS' hT hbig hmul hbys okS hne hlen
    have hstart : ∀ w1, Only [] w w1 → RNDev w1 M v S N ∧ w1.cell? ⟨M.c, 5, none⟩ = some (.pointer (some ⟨M.pb, 0, none⟩)) := fun w1 hO => ⟨HN.out.still hO, ((HN.out.still hO).chip.blk.cell 5).trans rfl⟩
    have HSTART := hide hstart
    clear hstart
    cases done with
    | true =>
      have ht := hnb rfl
      subst ht
      simp only [if_true] at hE
      by_cases hf : S'.failed = true
      · rw [hf] at hE
        simp only [if_true] at hE
        rw [hE]
        go_enter Try.func14, Try.ntmps14
        go_wp2_with fail
        refine Calls.mono HPG.out ?_
        rintro e w1 ⟨rfl, hO1⟩
        obtain ⟨hd1, c5⟩ := HSTART.out w1 hO1
        go_wp2_with fail
        refine (hst w1 hd1.pow).mono ?_
        rintro e w2 ⟨rfl, hP2, hg2⟩
        have hd2 := hd1.step hP2 hfl hg2
        have d5 : w2.cell? ⟨M.c, 5, none⟩ = some (.pointer (some ⟨M.pb, 0, none⟩)) := (hd2.chip.blk.cell 5).trans rfl
        go_wp2_with fail
        refine (RFailsX_any w2 M.pb v S' (n + 1) hd2.pow okS' (by omega)).mono ?_
        rintro e w3 ⟨rfl, hg3⟩
        rw [hf]
        have hO : Only M.all w w3 := ((hO1.wide (by simp)).trans (only_grown hg2 (fun k e => by cases e; simp [RLy.all]))).trans (only_grown hg3 (by simp))
        have hd3 := hd2.still (only_grown (l := []) hg3 (by simp))
        go_wp2
        go_ret
        exact ⟨rfl, hd3, hO⟩
      · have hf' : S'.failed = false := by simpa using hf
        rw [hf'] at hE
        simp only [if_false, Bool.false_eq_true] at hE
        rw [hE]
        go_enter Try.func14, Try.ntmps14
        go_wp2_with fail
        refine Calls.mono HPG.out ?_
        rintro e w1 ⟨rfl, hO1⟩
        obtain ⟨hd1, c5⟩ := HSTART.out w1 hO1
        go_wp2_with fail
        refine (hst w1 hd1.pow).mono ?_
        rintro e w2 ⟨rfl, hP2, hg2⟩
        have hd2 := hd1.step hP2 hfl hg2
        have d5 : w2.cell? ⟨M.c, 5, none⟩ = some (.pointer (some ⟨M.pb, 0, none⟩)) := (hd2.chip.blk.cell 5).trans rfl
        go_wp2_with fail
        refine (RFailsX_any w2 M.pb v S' (n + 1) hd2.pow okS' (by omega)).mono ?_
        rintro e w3 ⟨rfl, hg3⟩
        rw [hf']
        have hO : Only M.all w w3 := ((hO1.wide (by simp)).trans (only_grown hg2 (fun k e => by cases e; simp [RLy.all]))).trans (only_grown hg3 (by simp))
        have hd3 := hd2.still (only_grown (l := []) hg3 (by simp))
        clear hst hd1 hd2 hP2 hg2 hg3 c5 d5 hO1
        go_wp2_with fail
        go_loopw [8] (fun i wr => ∃ k : Nat, k ≤ T ∧ i = .int .i64 k ∧ RNDev wr M v S' { N with bs := fill N.bs P 255 k } ∧ Only M.all w wr) (fun i _ => T - (intOf i).toNat)
        case atStart => exact ⟨0, Nat.zero_le _, rfl, hd3, hO⟩
        case round =>
          clear hd3 hO
          obtain ⟨k, hk, rfl, hdev, hon⟩ := hrel
          obtain ⟨d3, d4, d5, d6⟩ := HCE.out wr _ hdev.chip rfl rfl rfl rfl rfl
          simp only [HFL] at d6
          by_cases hlt : k < T
          · obtain ⟨q, hq⟩ : ∃ q, P + k = q := ⟨_, rfl⟩
            obtain ⟨db, df⟩ := hdev.chip.byteAt (j := q) (by simp only [HFL]; omega)
            have R : ∀ m, RNDev ((wr.drewN m).setCell ⟨M.bb, q, none⟩ (.int .u8 255)) M v S' { N with bs := fill N.bs P 255 (k + 1) } := fun m => by
              have := (hdev.still (only_drewNY wr m)).setB q 255 (by omega)
              exact this.bytesEq (by simp only; rw [fill_succY, hq, or_255 ((HFB 255 k).at q)])
            have G : ∀ m, Only M.all w ((wr.drewN m).setCell ⟨M.bb, q, none⟩ (.int .u8 255)) := fun m => (hon.trans ((only_drewNY wr m).wide (by simp))).trans (only_setCell _ M.bb q (.int .u8 255) M.all (by simp [RLy.all]))
            have HR := hide R
            have HG := hide G
            have hwq : IntKind.i64.wrap ((P : Int) + (k : Int)) = (q : Int) := by rw [IntKind.wrap_i64]; omega
            have hql : q < N.bs.length := by omega
            have hlt' : (k : Int) < (T : Int) := by omega
            simp only at db
            generalize (fill N.bs P 255 k).getD q 0 = y at *
            clear R G hdev hon hq
            go_wp2_with fail
            go_quiet (fail)
            go_wp2
            exact ⟨⟨k + 1, by omega, by go_num, HR.out _, HG.out _⟩, by simp [intOf]; omega⟩
          · obtain rfl : k = T := by omega
            have hge : ¬ ((k : Int) < (k : Int)) := by omega
            have hdn := fun m => hdev.still (only_drewNY wr m)
            have hnn := fun m => hon.trans ((only_drewNY wr m).wide (l := []) (m := M.all) (by simp))
            clear hlt
            go_wp2_with fail
            go_quiet (fail)
            have hd4 := hdn nq
            have hO4 := hnn nq
            generalize wr.drewN nq = w4 at *
            have c7 := hd4.chip.ncell
            simp only at c7
            have n1 := hd4.chip.nextAt (j := i) (by rw [hnl]; exact hi)
            simp only at n1
            have nf := hd4.chip.nxt.frozen i
            have R1 := hd4.setN i 0
            have G1 := hO4.trans (only_setCell w4 M.nb i (.int .i64 0) M.all (by simp [RLy.all]))
            simp only at R1
            clear hdn hnn hdev hon d3 d4 d5 d6
            go_upto_region 17 with fail
            generalize w4.setCell ⟨M.nb, i, none⟩ (.int .i64 0) = w5 at *
            have c8 := R1.chip.ecell
            simp only at c8
            have e1 := R1.chip.countAt (j := i) (by simp only; rw [hel]; exact hi)
            simp only at e1
            have ef := R1.chip.ers.frozen i
            have R2 := R1.setE i (N.er.getD i 0 + 1)
            have G2 := G1.trans (only_setCell w5 M.eb i (.int .i64 (N.er.getD i 0 + 1)) M.all (by simp [RLy.all]))
            simp only at R2
            obtain ⟨x, hx⟩ : ∃ x, N.er.getD i 0 = x := ⟨_, rfl⟩
            rw [hx] at e1 R2 G2 her
            have HR2 : Hid (RNDev (w5.setCell ⟨M.eb, i, none⟩ (.int .i64 (x + 1))) M v S' (({ N with bs := fill N.bs P 255 k } : DSt).count i)) := by
              unfold DSt.count
              simp only
              rw [hx]
              exact R2
            clear R1 G1 hd4 hO4 R2 hx c7 n1 nf
            go_wp2
            go_ret
            exact ⟨rfl, HR2.out, G2⟩
    | false =>
      cases torn with
      | false =>
        simp only [if_false, Bool.false_eq_true] at hE
        rw [hE]
        go_enter Try.func14, Try.ntmps14
        go_wp2_with fail
        refine Calls.mono HPG.out ?_
        rintro e w1 ⟨rfl, hO1⟩
        obtain ⟨hd1, c5⟩ := HSTART.out w1 hO1
        go_wp2_with fail
        refine (hst w1 hd1.pow).mono ?_
        rintro e w2 ⟨rfl, hP2, hg2⟩
        have hd2 := hd1.step hP2 hfl hg2
        have hO : Only M.all w w2 := (hO1.wide (by simp)).trans (only_grown hg2 (fun k e => by cases e; simp [RLy.all]))
        clear hst hd1 hP2 hg2 c5 hO1
        go_wp2_with fail
        go_loopw [8] (fun i wr => ∃ k : Nat, k ≤ T ∧ i = .int .i64 k ∧ RNDev wr M v S' N ∧ Only M.all w wr) (fun i _ => T - (intOf i).toNat)
        case atStart => exact ⟨0, Nat.zero_le _, rfl, hd2, hO⟩
        case round =>
          clear hd2 hO
          obtain ⟨k, hk, rfl, hdev, hon⟩ := hrel
          obtain ⟨d3, d4, d5, d6⟩ := HCE.out wr _ hdev.chip rfl rfl rfl rfl rfl
          have hdn := fun m => hdev.still (only_drewNY wr m)
          have hnn := fun m => hon.trans ((only_drewNY wr m).wide (l := []) (m := M.all) (by simp))
          have HDN := hide hdn
          have HNN := hide hnn
          clear hdn hnn hdev hon
          by_cases hlt : k < T
          · have hlt' : (k : Int) < (T : Int) := by omega
            go_wp2_with fail
            go_quiet (fail)
            go_wp2
            exact ⟨⟨k + 1, by omega, by go_num, HDN.out _, HNN.out _⟩, by simp [intOf]; omega⟩
          · obtain rfl : k = T := by omega
            have hge : ¬ ((k : Int) < (k : Int)) := by omega
            clear hlt
            go_wp2_with fail
            go_quiet (fail)
            go_wp2
            go_ret
            exact ⟨rfl, HDN.out _, HNN.out _⟩
      | true =>
        simp only [if_false, if_true, Bool.false_eq_true] at hE
        rw [hE]
        go_enter Try.func14, Try.ntmps14
        go_wp2_with fail
        refine Calls.mono HPG.out ?_
        rintro e w1 ⟨rfl, hO1⟩
        obtain ⟨hd1, c5⟩ := HSTART.out w1 hO1
        go_wp2_with fail
        refine (hst w1 hd1.pow).mono ?_
        rintro e w2 ⟨rfl, hP2, hg2⟩
        have hd2 := hd1.step hP2 hfl hg2
        have hO : Only M.all w w2 := (hO1.wide (by simp)).trans (only_grown hg2 (fun k e => by cases e; simp [RLy.all]))
        clear hst hd1 hP2 hg2 c5 hO1
        go_wp2_with fail
        go_loopw [8] (fun i wr => ∃ k : Nat, k ≤ T ∧ i = .int .i64 k ∧ RNDev wr M v S' { N with bs := fill N.bs P S'.mask k } ∧ Only M.all w wr) (fun i _ => T - (intOf i).toNat)
        case atStart => exact ⟨0, Nat.zero_le _, rfl, hd2, hO⟩
        case round =>
          clear hd2 hO
          obtain ⟨k, hk, rfl, hdev, hon⟩ := hrel
          obtain ⟨d3, d4, d5, d6⟩ := HCE.out wr _ hdev.chip rfl rfl rfl rfl rfl
          simp only [HFL] at d6
          by_cases hlt : k < T
          · obtain ⟨q, hq⟩ : ∃ q, P + k = q := ⟨_, rfl⟩
            have hmk := hdev.mask
            have R : ∀ m, RNDev ((wr.drewN m).drew.setCell ⟨M.bb, q, none⟩ (.int .u8 (bits .or .u8 ((fill N.bs P S'.mask k).getD q 0) S'.mask))) M v S' { N with bs := fill N.bs P S'.mask (k + 1) } := fun m => by
              have := ((hdev.still (only_drewNY wr m)).still (only_drewY _)).setB q (bits .or .u8 ((fill N.bs P S'.mask k).getD q 0) S'.mask) (bits_u8 _ _ _)
              exact this.bytesEq (by simp only; rw [fill_succY, hq])
            have G : ∀ m, Only M.all w ((wr.drewN m).drew.setCell ⟨M.bb, q, none⟩ (.int .u8 (bits .or .u8 ((fill N.bs P S'.mask k).getD q 0) S'.mask))) := fun m => ((hon.trans ((only_drewNY wr m).wide (by simp))).trans ((only_drewY _).wide (by simp))).trans (only_setCell _ M.bb q _ M.all (by simp [RLy.all]))
            have HR := hide R
            have HG := hide G
            obtain ⟨db, df⟩ := hdev.chip.byteAt (j := q) (by simp only [HFL]; omega)
            have hwq : IntKind.i64.wrap ((P : Int) + (k : Int)) = (q : Int) := by rw [IntKind.wrap_i64]; omega
            have hql : q < N.bs.length := by omega
            have hql' : (q : Int) < N.bs.length := by omega
            have hlt' : (k : Int) < (T : Int) := by omega
            simp only at db
            clear R G
            generalize (fill N.bs P S'.mask k).getD q 0 = y at *
            clear hdev hon hq
            go_wp2_with fail
            go_quiet (fail)
            have d5' : (wr.drewN nq).cell? ⟨M.c, 5, none⟩ = some (.pointer (some ⟨M.pb, 0, none⟩)) := d5
            have d6' : (wr.drewN nq).cell? ⟨M.c, 6, none⟩ = some (.slice (some ⟨M.bb, 0, none⟩) N.bs.length M.bc) := d6
            have db' : (wr.drewN nq).cell? ⟨M.bb, q, none⟩ = some (.int .u8 y) := db
            have df' : (wr.drewN nq).frozen? ⟨M.bb, q, none⟩ = false := df
            have hmk' : (wr.drewN nq).cell? ⟨M.pb, 2, none⟩ = some (.int .u8 S'.mask) := hmk
            have HR' := hide (HR.out nq)
            have HG' := hide (HG.out nq)
            clear HR HG d3 d4 d5 d6 db df hmk
            generalize wr.drewN nq = w4 at *
            go_wp2_with fail
            refine still_tail_drew 25 (by kernel_rfl) (by kernel_rfl) ?_
            simp only [List.take_succ_cons, List.take_zero, List.drop_succ_cons, List.drop_zero]
            repeat still_step
            first
              | refine wpStill_nil ?_
              | (trace_state; fail)
            go_wp2
            exact ⟨⟨k + 1, by omega, by go_num, HR'.out, HG'.out⟩, by simp [intOf]; omega⟩
          · obtain rfl : k = T := by omega
            have hge : ¬ ((k : Int) < (k : Int)) := by omega
            have hdn := fun m => hdev.still (only_drewNY wr m)
            have hnn := fun m => hon.trans ((only_drewNY wr m).wide (l := []) (m := M.all) (by simp))
            have HDN := hide hdn
            have HNN := hide hnn
            clear hlt hdn hnn hdev hon
            go_wp2_with fail
            go_quiet (fail)
            go_wp2
            go_ret
            exact ⟨rfl, HDN.out _, HNN.out _⟩
  · have h0' : isB N b = false := by simpa using h0
    have hr : eraseD S N b = (1, S, N) := by unfold eraseD; rw [h0']; rfl
    rw [hr]
    have hpg := Rpage_none w M N n h.chip ok b 0 (isP_zero ok h0')
    clear hr h0 h0'
    go_enter Try.func14, Try.ntmps14
    go_wp2_with fail
    refine hpg.mono ?_
    rintro e w1 ⟨rfl, rfl⟩
    go_wp2
    go_ret
    exact ⟨rfl, h, Only.refl _ _⟩
end Go.Proofs.Ythiehpofmlbehaa
