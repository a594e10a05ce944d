/-
  The document's own chip: bytes are programmed, sectors erased.
-/
import Derived.Test.YtgkgbbffgcmekaaRefNew
namespace Go.Proofs.Ytgkgbbffgcmekaa
open Go.RowKit
set_option linter.unusedVariables false
set_option maxRecDepth 100000

set_option maxHeartbeats 2000000 in
theorem RProgram_any (base : Nat) (w : World) (L : Lay) (S : PSt) (N : NSt) (n : Nat) (h : RDev base w L S N) (okS : S.Ok n) (ok : N.Ok n) (hn : n < 800000) (p : Int) (hp : (Lit.int .i64 p).wf = true)
    (v : Value) (b : List Int) (hv : Row w v b) (hb : b.length ≤ 65536) (hsep : 0 < b.length → ∀ vb off n cap, v = .slice (some ⟨vb, off, none⟩) n cap → vb ∉ [L.pb, L.bb]) :
    Calls Try.prog 47 #[.pointer (some ⟨L.c, 0, none⟩), .int .i64 p, v] w fun e w' =>
      e = .returned (.int .i64 (progA S N.bs p b).1) ∧ RDev base w' L (progA S N.bs p b).2.1 { N with bs := (progA S N.bs p b).2.2 } ∧ Only [L.pb, L.bb] w w' := by
  have hbig := ok.big
  have hlen := ok.len
  have hh := rwithin_any base w L N n h.2 ok p b.length hp (wf_i64 (by omega) (by omega))
  obtain ⟨ao, cap, rfl⟩ := hv.of_len
  by_cases ht : hasS N.bs.length p b.length = true
  · have hu := ht
    unfold hasS at hu
    simp at hu
    obtain ⟨P, rfl⟩ := Int.eq_ofNat_of_zero_le hu.1
    have hle : P + b.length ≤ N.A * N.B := by omega
    rw [ht] at hh
    have hbys := hv.bys
    have hat : 0 < b.length → ∃ vb off, ao = some ⟨vb, off, none⟩ ∧ vb < w.heap.size ∧ vb ∉ [L.pb, L.bb] ∧ ∀ i, i < b.length → w.cell? ⟨vb, off + i, none⟩ = some (.int .u8 (b.getD i 0)) := by
      intro h0
      obtain ⟨vb, off, cap', hv', hlc, hltb, hc⟩ := hv.at (List.length_pos_iff.1 h0)
      obtain ⟨rfl, rfl⟩ : ao = some ⟨vb, off, none⟩ ∧ cap = cap' := by simpa using hv'
      exact ⟨vb, off, rfl, hltb, hsep h0 vb off _ _ rfl, hc⟩
    have hA : progA S N.bs P b = if sets N.bs P b then (9, S, N.bs) else progS S N.bs P b := by unfold progA; rw [ht]; simp
    have HAT := hide hat
    clear hv hsep ht hat
    generalize hbl : b.length = bl at *
    have HBL := hide hbl
    have HLEN := hide hlen
    clear hbl hlen
    go_enter Try.func47, Try.ntmps47
    go_wp2_with fail
    refine hh.mono ?_
    rintro e w1 ⟨rfl, rfl⟩
    go_wp2_with fail
    go_loopw [7] (fun i wr => ∃ k : Nat, k ≤ bl ∧ i = .int .i64 k ∧ sets N.bs P b = sets N.bs (P + k) (b.drop k) ∧ Only [] w1 wr) (fun i _ => bl - (intOf i).toNat)
    case atStart => exact ⟨0, Nat.zero_le _, rfl, rfl, Only.refl _ _⟩
    case round =>
      obtain ⟨k, hk, rfl, hset, hon⟩ := hrel
      by_cases hlt : k < bl
      · obtain ⟨vb, off, rfl, hvlt, hsep', hc⟩ := HAT.out (by omega)
        have hdev := h.still hon
        have hck : wr.cell? ⟨vb, off + k, none⟩ = some (.int .u8 (b.getD k 0)) := (World.cell?_of_block (a := ⟨vb, off + k, none⟩) (hon.block vb hvlt (by simp))).trans (hc k hlt)
        have d6 := hdev.2.blk.cell 6
        simp [ccells] at d6
        have hbk := hdev.2.byte (j := P + k) (by rw [HLEN.out]; omega)
        rw [sets_drop N.bs P b k (by rw [HBL.out]; omega)] at hset
        generalize b.getD k 0 = x at *
        generalize N.bs.getD (P + k) 0 = y at *
        have hkl : (P : Int) + k < (N.A * N.B : Nat) := by omega
        generalize hLL : N.A * N.B = len at *
        by_cases hz : bits .andNot .u8 x y = 0
        · simp only [hz, bne_self_eq_false, Bool.false_or] at hset
          have HS := hide hset
          clear hset hc hdev
          go_wp2_with fail
          go_quiet (fail)
          go_wp2
          exact ⟨⟨k + 1, by omega, by go_num, HS.out, hon.trans (only_drewN _ _)⟩, by simp [intOf]; omega⟩
        · have hz' : (bits .andNot .u8 x y != 0) = true := by simpa using hz
          simp only [hz', Bool.true_or] at hset
          have HA : Hid (progA S N.bs P b = (9, S, N.bs)) := by unfold Hid; rw [hA, hset]; rfl
          have hD := hdev
          clear hset hc hz hA
          go_wp2_with fail
          go_quiet (fail)
          go_wp2
          go_ret
          rw [HA.out]
          exact ⟨rfl, hD.still (only_drewN _ _), (hon.trans (only_drewN _ _)).wide (by simp)⟩
      · obtain rfl : k = bl := by omega
        have hdev := h.still hon
        rw [List.drop_of_length_le (by rw [HBL.out]; omega)] at hset
        have HA : Hid (progA S N.bs P b = progS S N.bs P b) := by unfold Hid; rw [hA, hset]; rfl
        clear hset hA h
        go_wp2_with fail
        go_loopw [8] (fun i wq => ∃ j : Nat, j ≤ k ∧ i = .int .i64 j ∧ ∃ (Sk : PSt) (bk : List Int), Sk.Ok (n + j) ∧ NSt.Ok { N with bs := bk } (n + j) ∧ progS S N.bs P b = progS Sk bk (P + j) (b.drop j) ∧ RDev base wq L Sk { N with bs := bk } ∧ Only [L.pb, L.bb] w1 wq) (fun i _ => k - (intOf i).toNat)
        case atStart => exact ⟨0, Nat.zero_le _, rfl, S, N.bs, okS, ok, rfl, hdev, hon.wide (by simp)⟩
        case round =>
          clear hon hdev
          obtain ⟨j, hj, rfl, Sk, bk, hSk, hNk, hpr, hdev, hon⟩ := hrel
          by_cases hlt2 : j < k
          · obtain ⟨vb, off, rfl, hvlt, hsep', hc⟩ := HAT.out (by omega)
            have hlk := hNk.len
            simp only at hlk
            have hck : wr.cell? ⟨vb, off + j, none⟩ = some (.int .u8 (b.getD j 0)) := (World.cell?_of_block (a := ⟨vb, off + j, none⟩) (hon.block vb hvlt hsep')).trans (hc j hlt2)
            have hx := hbys.at j
            rw [progS_cons Sk bk P b j (by rw [HBL.out]; omega)] at hpr
            generalize b.getD j 0 = x at *
            have hst := RStepN_any base wr L.pb Sk (n + j) hdev.1 hSk (by omega)
            have hok := stepB_ok (p := P + j) hSk hNk hx
            have hnb := step_not_both Sk
            have hB : stepB Sk bk (P + j) x = if Sk.step.1 then (0, Sk.step.2.2, bk.set (P + j) x)
              else if Sk.step.2.1 then (6, Sk.step.2.2, bk.set (P + j) (bits .or .u8 x (bits .and .u8 (bk.getD (P + j) 0) Sk.step.2.2.mask))) else (6, Sk.step.2.2, bk) := rfl
            simp only at hok
            have hql : P + j < N.A * N.B := by omega
            generalize hq : P + j = q at *
            have HQ := hide hq
            generalize hy : bk.getD q 0 = y at hB
            have HY := hide hy
            clear hy
            obtain ⟨⟨done, torn, S'⟩, hS'⟩ : ∃ q, Sk.step = q := ⟨_, rfl⟩
            rw [hS'] at hst hB hnb hpr
            simp only at hst hB hnb hpr
            clear hS' hc
            have c5 := hdev.2.blk.cell 5
            simp [ccells] at c5
            have hwr : IntKind.i64.wrap ((P : Int) + (j : Int)) = (q : Int) := by rw [i64_in _ (by omega)]; omega
            have hF : ∀ w2 : World, RPowN base w2 L.pb S' → wr.grownBy w2 (some L.pb) → RDev base w2 L S' { N with bs := bk } ∧ Only [L.pb, L.bb] w1 w2 ∧ w2.cell? ⟨vb, off + j, none⟩ = some (.int .u8 x) ∧ w2.cell? ⟨L.c, 5, none⟩ = some (.pointer (some ⟨L.pb, 0, none⟩)) ∧ w2.cell? ⟨L.c, 6, none⟩ = some (.slice (some ⟨L.bb, 0, none⟩) (N.A * N.B) (N.A * N.B)) ∧ w2.cell? ⟨L.bb, q, none⟩ = some (.int .u8 y) ∧ w2.frozen? ⟨L.bb, q, none⟩ = false ∧ w2.cell? ⟨L.pb, 2, none⟩ = some (.int .u8 S'.mask) := by
              intro w2 hP2 hg2
              have h2 := hdev.step hP2 hg2
              refine ⟨h2, hon.trans (only_grown hg2 (fun k e => by cases e; simp)), hg2.cell hck (by intro e; cases e; simp at hsep'), (h2.2.blk.cell 5).trans rfl, (h2.2.blk.cell 6).trans rfl, ?_, h2.2.byt.frozen _, hP2.cells.2.1⟩
              rw [h2.2.byte (by simp only; omega)]
              simp only
              rw [HY.out]
            have HF := hide hF
            clear hF hdev hck hq
            generalize hLL : N.A * N.B = len at *
            cases done with
            | true =>
              have ht := hnb rfl
              subst ht
              simp only [if_true] at hB hpr
              rw [hB] at hpr hok
              have HPR := hide hpr
              clear hpr hB hnb
              go_wp2_with fail
              refine hst.mono ?_
              rintro e w2 ⟨rfl, hP2, hg2⟩
              obtain ⟨h2, hon2, e1, e2, e3, e4, e5, e6⟩ := HF.out w2 hP2 hg2
              clear hst hP2 hg2 HF
              have R := (h2.still (only_drew w2)).setByte q x
              have G := (hon2.trans ((only_drew w2).wide (by simp))).trans (only_setCell w2.drew L.bb q (.int .u8 x) [L.pb, L.bb] (by simp))
              clear h2 hon2 hon
              go_wp2_with fail
              refine still_tail_drew 12 (by kernel_rfl) (by kernel_rfl) ?_
              simp only [List.take_succ_cons, List.take_zero, List.drop_succ_cons, List.drop_zero]
              repeat still_step
              refine wpStill_nil ?_
              go_wp2
              exact ⟨⟨j + 1, by omega, by go_num, _, _, hok.1, hok.2, HPR.out, R, G⟩, by simp [intOf]; omega⟩
            | false =>
              cases torn with
              | false =>
                simp only [if_false, Bool.false_eq_true] at hB hpr
                rw [hB] at hpr
                have HPR := hide hpr
                clear hpr hB hnb
                go_wp2_with fail
                refine hst.mono ?_
                rintro e w2 ⟨rfl, hP2, hg2⟩
                obtain ⟨h2, hon2, e1, e2, e3, e4, e5, e6⟩ := HF.out w2 hP2 hg2
                clear hst hP2 hg2 HF
                go_wp2
                go_ret
                rw [HA.out, HPR.out]
                exact ⟨rfl, h2, hon2⟩
              | true =>
                simp only [if_false, if_true, Bool.false_eq_true] at hB hpr
                rw [hB] at hpr
                have HPR := hide hpr
                clear hpr hB hnb
                go_wp2_with fail
                refine hst.mono ?_
                rintro e w2 ⟨rfl, hP2, hg2⟩
                obtain ⟨h2, hon2, e1, e2, e3, e4, e5, e6⟩ := HF.out w2 hP2 hg2
                clear hst hP2 hg2 HF
                have R := (h2.still (only_drew w2)).setByte q (bits .or .u8 x (bits .and .u8 y S'.mask))
                have G := (hon2.trans ((only_drew w2).wide (by simp))).trans (only_setCell w2.drew L.bb q (.int .u8 (bits .or .u8 x (bits .and .u8 y S'.mask))) [L.pb, L.bb] (by simp))
                clear h2 hon2 hon
                go_wp2_with fail
                refine still_tail_drew 30 (by kernel_rfl) (by kernel_rfl) ?_
                simp only [List.take_succ_cons, List.take_zero, List.drop_succ_cons, List.drop_zero]
                repeat still_step
                refine wpStill_nil ?_
                go_wp2
                go_ret
                rw [HA.out, HPR.out]
                exact ⟨rfl, R, G⟩
          · obtain rfl : j = k := by omega
            rw [List.drop_of_length_le (by rw [HBL.out]; omega)] at hpr
            have HPR := hide hpr
            clear hpr
            go_wp2
            go_ret
            rw [HA.out, HPR.out]
            exact ⟨rfl, hdev, hon⟩
  · have hf : hasS N.bs.length p b.length = false := by simpa using ht
    have hA : progA S N.bs p b = (1, S, N.bs) := by unfold progA; rw [hf]; rfl
    rw [hA]
    rw [hf] at hh
    clear ht hf hA hsep hv
    generalize b.length = len at *
    go_enter Try.func47, Try.ntmps47
    go_wp2_with fail
    refine hh.mono ?_
    rintro e w1 ⟨rfl, rfl⟩
    go_wp2
    go_ret
    exact ⟨rfl, h, Only.refl _ _⟩
end Go.Proofs.Ytgkgbbffgcmekaa
