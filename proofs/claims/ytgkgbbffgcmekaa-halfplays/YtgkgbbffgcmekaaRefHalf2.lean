/-
  The document's own half: Wipe, AppendHalf.
-/
import Derived.Test.YtgkgbbffgcmekaaRefHalf
import Derived.Test.YtgkgbbffgcmekaaHalfQ
import Derived.Test.YtgkgbbffgcmekaaRefFrame
import Derived.Test.YtgkgbbffgcmekaaKeptN
namespace Go.Proofs.Ytgkgbbffgcmekaa
open Go.RowKit
set_option linter.unusedVariables false
set_option maxRecDepth 100000

theorem half_cmp {hf : Int} (hh : isHalf hf = true) : ((hf != 0) = false) ∨ ((hf != 0) = true ∧ (hf != 1) = false) := by
  have : hf = 0 ∨ hf = 1 := by simpa [isHalf] using hh
  rcases this with rfl | rfl <;> simp
theorem half_cmp_no {hf : Int} (hh : isHalf hf = false) : (hf != 0) = true ∧ (hf != 1) = true := by
  simp [isHalf] at hh
  obtain ⟨h0, h1⟩ := hh
  exact ⟨by simpa using h0, by simpa using h1⟩

set_option maxHeartbeats 600000 in
theorem RHWipe_any (base : Nat) (w : World) (L : Lay) (S : PSt) (N : NSt) (n : Nat) (h : RDev base w L S N) (okS : S.Ok n) (ok : N.Ok n) (hn : n < 700000) (hf : Int) :
    Calls Try.prog 14 #[.pointer (some ⟨L.c, 0, none⟩), .int .i64 hf] w fun e w' =>
      e = .returned (.int .i64 (wipeH S N hf).1) ∧ RDev base w' L (wipeH S N hf).2.1 (wipeH S N hf).2.2 ∧ Only [L.pb, L.bb, L.eb] w w' := by
  by_cases hh : isHalf hf = true
  · have e1 : wipeH S N hf = wipeF hf.toNat (halfN N) (halfN N) S N := by unfold wipeH; rw [hh]; rfl
    rw [e1]
    have hcmp := half_cmp hh
    have hA1 := ok.A1
    have hA0 := ok.A0
    have hK : halfN N ≤ 8 := by unfold halfN; omega
    have hKA : (N.A : Int) / 2 = (halfN N : Int) := by unfold halfN; omega
    have c0 := h.2.blk.cell 0
    simp [ccells] at c0
    obtain ⟨F, rfl, hF⟩ : ∃ F : Nat, hf = (F : Int) ∧ F ≤ 1 := by
      have : hf = 0 ∨ hf = 1 := by simpa [isHalf] using hh
      rcases this with rfl | rfl
      · exact ⟨0, rfl, by omega⟩
      · exact ⟨1, rfl, by omega⟩
    rw [Int.toNat_natCast]
    have HD := hide h
    generalize halfN N = K at *
    obtain ⟨M, hM, hM2⟩ : ∃ M : Nat, F * K = M ∧ M ≤ 8 := ⟨F * K, rfl, by have := Nat.mul_le_mul hF hK; omega⟩
    have hmw0 : (F : Int) * (K : Int) = (M : Int) := by rw [← hM]; simp
    have hmw : IntKind.i64.wrap ((F : Int) * (K : Int)) = (M : Int) := by rw [hmw0]; exact i64_in _ (by omega)
    have hmu0 : ((F : Int) + 1) * (K : Int) = ((M + K : Nat) : Int) := by rw [Int.add_mul, hmw0]; omega
    have hmu : IntKind.i64.wrap (((F : Int) + 1) * (K : Int)) = ((M + K : Nat) : Int) := by rw [hmu0]; exact i64_in _ (by omega)
    obtain ⟨U, hU⟩ : ∃ U, M + K = U := ⟨_, rfl⟩
    rw [hU] at hmu
    have hU2 : U ≤ 16 := by omega
    have HU := hide hU
    have HOK := hide okS
    have HON := hide ok
    clear h hh e1 okS ok hmw0 hmu0 hU
    rcases hcmp with hc0 | ⟨hc0, hc1⟩
    all_goals
      go_enter Try.func14, Try.ntmps14
      go_wp2_with fail
      go_loopw [6, 7] (fun i _ wr => ∃ (k : Nat) (S' : PSt) (N' : NSt), k ≤ K ∧ i = .int .i64 ((M : Int) + (k : Int) - 1) ∧ RDev base wr L S' N' ∧ wipeF F K K S N = wipeF F K k S' N' ∧ S'.Ok (n + (K - k)) ∧ N'.Ok (n + (K - k)) ∧ Only [L.pb, L.bb, L.eb] w wr) (fun i _ _ => (intOf i + 1 - M).toNat)
      case atStart => exact ⟨K, S, N, Nat.le_refl _, by have := HU.out; congr 1; omega, HD.out, rfl, by simpa using HOK.out, by simpa using HON.out, Only.refl _ _⟩
      case round =>
        obtain ⟨k, S', N', hk, rfl, hD, hW, hS, hN, hO⟩ := hrel
        cases k with
        | zero =>
          have HW := hide hW
          clear hW
          go_wp2
          go_ret
          rw [HW.out]
          exact ⟨rfl, hD, hO⟩
        | succ k =>
          have hk1 : (M : Int) + ((k + 1 : Nat) : Int) - 1 = ((M + k : Nat) : Int) := by omega
          rw [hk1]
          have her := RErase_any base wr L S' N' (n + (K - (k + 1))) hD hS hN (by omega) ((M + k : Nat) : Int) (wf_i64 (by omega) (by omega))
          have hok := eraseA_ok (s := ((M + k : Nat) : Int)) hS hN
          have hcode := eraseA_code S' N' ((M + k : Nat) : Int)
          rw [wipeF, hM] at hW
          obtain ⟨⟨x, S1, N1⟩, hq⟩ : ∃ r, eraseA S' N' ((M + k : Nat) : Int) = r := ⟨_, rfl⟩
          rw [hq] at her hok hcode hW
          simp only at her hok hcode hW
          have hS1 : S1.Ok (n + (K - k)) := hok.1.more (by omega)
          have hN1 : N1.Ok (n + (K - k)) := hok.2.more (by omega)
          have hkk : k < K := by omega
          obtain ⟨R, hR⟩ : ∃ R, M + k = R := ⟨_, rfl⟩
          have hge : (M : Int) ≤ (R : Int) := by omega
          have hRk : Hid (R = M + k) := hide hR.symm
          rw [hR] at her ⊢
          clear hq hok hD hS hN hk1 hR hk
          by_cases hx : x = 0
          · subst hx
            rw [if_pos rfl] at hW
            have HW := hide hW
            have HS1 := hide hS1
            have HN1 := hide hN1
            clear hW hcode hS1 hN1
            go_wp2_with fail
            refine her.mono ?_
            rintro e w5 ⟨rfl, hD5, hO5⟩
            go_wp2
            exact ⟨⟨k, S1, N1, by omega, by have h1 := hRk.out; have h2 : wrap64 ((R : Int) - 1) = (R : Int) - 1 := IntWalk.wrap64_in _ (by omega); congr 1; omega, hD5, HW.out, HS1.out, HN1.out, hO.trans hO5⟩, by have h1 := hRk.out; have h2 : wrap64 ((R : Int) - 1) = (R : Int) - 1 := IntWalk.wrap64_in _ (by omega); simp only [intOf, h2]; omega⟩
          · rw [if_neg hx] at hW
            have hx' : (x != 0) = true := by simpa using hx
            have HW := hide hW
            clear hW hcode hS1 hN1 hx
            go_wp2_with fail
            refine her.mono ?_
            rintro e w5 ⟨rfl, hD5, hO5⟩
            go_wp2
            go_ret
            rw [HW.out]
            exact ⟨rfl, hD5, hO.trans hO5⟩
  · have hh' : isHalf hf = false := by simpa using hh
    have e1 : wipeH S N hf = (1, S, N) := by unfold wipeH; rw [hh']; rfl
    rw [e1]
    obtain ⟨hc0, hc1⟩ := half_cmp_no hh'
    clear e1 okS ok hh hh'
    go_enter Try.func14, Try.ntmps14
    go_wp2
    go_ret
    exact ⟨rfl, h, Only.refl _ _⟩

set_option maxHeartbeats 600000 in
theorem RAppendHalf_any (base : Nat) (w : World) (L : Lay) (S : PSt) (N : NSt) (n : Nat) (h : RDev base w L S N) (okS : S.Ok n) (ok : N.Ok n) (hr : rightS N.A N.B N.c N.d N.e = true) (hn : n < 700000) (hsz : base ≤ w.heap.size) (hf q : Int) (hq : (Lit.int .i64 q).wf = true)
    (v : Value) (b : List Int) (hv : Row w v b) :
    Calls Try.prog 22 #[.pointer (some ⟨L.c, 0, none⟩), .int .i64 hf, .int .i64 q, v] w fun e w' =>
      e = .returned (.int .i64 (appH S N hf q b).1) ∧ RDev base w' L (appH S N hf q b).2.1 { N with bs := (appH S N hf q b).2.2 } ∧ Only [L.pb, L.bb] w w' := by
  by_cases hh : isHalf hf = true
  · have hcmp := half_cmp hh
    have hf01 : hf = 0 ∨ hf = 1 := by simpa [isHalf] using hh
    by_cases hq0 : q < 0
    · have e1 : appH S N hf q b = (1, S, N.bs) := by unfold appH; rw [if_pos (.inr hq0)]
      rw [e1]
      clear e1 okS ok hr hv hq hh hf01
      rcases hcmp with hc0 | ⟨hc0, hc1⟩
      all_goals
        go_enter Try.func22, Try.ntmps22
        go_wp2
        go_ret
        exact ⟨rfl, h, Only.refl _ _⟩
    · have hbo := RBody_any w v b hv
      have hq' := of_wf_i64 hq
      have hq0' : ¬ (q < 0) := hq0
      by_cases hbig : 65000 < b.length
      · have e1 : appH S N hf q b = (21, S, N.bs) := by unfold appH; rw [if_neg (by rw [hh]; simp; omega), if_pos hbig]
        have e2 : bodyS b = ([], 21) := by unfold bodyS; rw [if_pos hbig]
        rw [e1]
        rw [e2] at hbo
        have HD := hide h
        clear e1 e2 okS ok hr hv hq h hbig hh hf01
        rcases hcmp with hc0 | ⟨hc0, hc1⟩
        all_goals
          go_enter Try.func22, Try.ntmps22
          go_wp2_with fail
          refine hbo.mono ?_
          rintro e w2 ⟨u, rfl, hu, hb2⟩
          go_wp2
          go_ret
          exact ⟨rfl, HD.out.still (only_below hb2), only_below hb2⟩
      · have e2 : bodyS b = (bodyB b, 0) := by unfold bodyS; rw [if_neg hbig]
        rw [e2] at hbo
        have hss := fun w => RHalfSize_any w N.A N.B N.c N.d N.e hr
        rw [show N.A / 2 * N.B = halfZ N from rfl] at hss
        have hbz := halfZ_big ok
        have hal : appH S N hf q b = if (halfZ N : Int) - q < (b.length : Int) + 7 then (10, S, N.bs) else progR S N.bs (hf * (halfZ N : Int) + q) (bodyB b) := by
          unfold appH; rw [if_neg (by rw [hh]; simp; omega), if_neg hbig]
        rw [hal]
        have hbl : b.length ≤ 65000 := by omega
        have HD := hide h
        have HB := hide hv.bys
        have hlt := h.2.lt
        have hpL := hlt.2.1
        have hbL := hlt.2.2.1
        obtain ⟨P, hP, hP1⟩ : ∃ P : Nat, hf * (halfZ N : Int) = (P : Int) ∧ P ≤ 32768 := by
          rcases hf01 with rfl | rfl
          · exact ⟨0, by simp, by omega⟩
          · exact ⟨halfZ N, by simp, by omega⟩
        rw [hP]
        have hmw : IntKind.i64.wrap (hf * (halfZ N : Int)) = (P : Int) := by rw [hP]; exact i64_in _ (by omega)
        have HSZ := hide hsz
        have HN := hide hn
        have HBL := hide (bodyB_length b)
        have HOK := hide ok
        have HOS := hide okS
        have hcellG : ∀ W, Chip 74 base W L N → W.cell? ⟨L.c, 0, none⟩ = some (.int .i64 N.A) ∧ W.cell? ⟨L.c, 1, none⟩ = some (.int .i64 N.B) ∧ W.cell? ⟨L.c, 2, none⟩ = some (.int .i64 N.c) ∧ W.cell? ⟨L.c, 3, none⟩ = some (.int .i64 N.d) ∧ W.cell? ⟨L.c, 4, none⟩ = some (.int .i64 N.e) := fun W hW =>
          ⟨(hW.blk.cell 0).trans rfl, (hW.blk.cell 1).trans rfl, (hW.blk.cell 2).trans rfl, (hW.blk.cell 3).trans rfl, (hW.blk.cell 4).trans rfl⟩
        have HCG := hide hcellG
        generalize hZ : halfZ N = Z at *
        obtain ⟨len, hlen⟩ : ∃ z, b.length = z := ⟨_, rfl⟩
        rw [hlen] at HBL ⊢
        clear e2 okS ok hr hv hq h hbig hal hh hlt hZ hsz hn hcellG hf01
        unfold gcells at hss
        have hbl' : len ≤ 65000 := by omega
        clear hbl hlen
        by_cases hsp : (Z : Int) - q < (len : Int) + 7
        · rw [if_pos hsp]
          have hg : ((Z : Int) < q) ∨ (¬ ((Z : Int) < q) ∧ (Z : Int) - q < (len : Int) + 6 + 1) := by omega
          have hsp2 : (Z : Int) - q < ((len + 6 : Nat) : Int) + 1 := by omega
          clear hsp
          rcases hg with hg | ⟨hg, hg2⟩ <;> rcases hcmp with hc0 | ⟨hc0, hc1⟩
          all_goals
            go_enter Try.func22, Try.ntmps22
            go_wp2_with fail
            refine hbo.mono ?_
            rintro e w2 ⟨u, rfl, hu, hb2⟩
            have hD2 := HD.out.still (only_below hb2)
            obtain ⟨c0, c1, c2, c3, c4⟩ := HCG.out w2 hD2.2
            obtain ⟨uo, ucap, rfl⟩ := hu.row.of_len
            rw [HBL.out]
            go_wp2_with fail
            refine (hss _).mono ?_
            rintro e w4 ⟨rfl, hb4⟩
            have hb14 := kl_step hb4 hb2
            clear hss hb2 hb4 hD2 c0 c1 c2 c3 c4
            go_wp2
            go_ret
            exact ⟨rfl, HD.out.still (only_below hb14), only_below hb14⟩
        · rw [if_neg hsp]
          obtain ⟨Q, rfl⟩ := Int.eq_ofNat_of_zero_le (show 0 ≤ q by omega)
          have hsp1 : ¬ ((Z : Int) < (Q : Int)) := by omega
          have hsp2 : ¬ ((Z : Int) - (Q : Int) < ((len + 6 : Nat) : Int) + 1) := by omega
          have haw : IntKind.i64.wrap ((P : Int) + (Q : Int)) = ((P + Q : Nat) : Int) := by rw [i64_in _ (by omega)]; simp
          rw [show (P : Int) + (Q : Int) = ((P + Q : Nat) : Int) by simp]
          have hPQ : P + Q ≤ 70000 := by omega
          generalize P + Q = R at *
          have hrp := fun w' (hd : RDev base w' L S N) (u : Value) (hu : Row w' u (bodyB b)) hsep => RProgram_any base w' L S N n hd HOS.out HOK.out (by have := HN.out; omega) (R : Int) (wf_i64 (by omega) (by omega)) u (bodyB b) hu (by rw [HBL.out]; omega) hsep
          have hok1 := progA_ok (p := (R : Int)) HOS.out HOK.out.bys (bodyB_bys HB.out)
          unfold progR
          obtain ⟨⟨x1, S1, bs1⟩, hqq⟩ : ∃ r, progA S N.bs (R : Int) (bodyB b) = r := ⟨_, rfl⟩
          rw [hqq] at hrp hok1 ⊢
          simp only at hrp hok1 ⊢
          rw [HBL.out] at hok1 ⊢
          have ok1 : NSt.Ok { N with bs := bs1 } (n + (len + 6)) := (HOK.out.more (by omega)).bytes hok1.2.1 hok1.2.2
          have okS1 := hok1.1
          obtain ⟨T, hT⟩ : ∃ T : Nat, R + (len + 6) = T := ⟨_, rfl⟩
          have hwT : IntKind.i64.wrap ((R : Int) + ((len + 6 : Nat) : Int)) = (T : Int) := by rw [i64_in _ (by omega)]; omega
          rw [show (R : Int) + ((len + 6 : Nat) : Int) = (T : Int) by omega]
          have hTb : Hid (T ≤ 200000) := hide (by omega)
          have HO1 := hide ok1
          have HS1 := hide okS1
          obtain ⟨m6, hm6⟩ : ∃ m, len + 6 = m := ⟨_, rfl⟩
          have HM6 := hide hm6
          have HBM : Hid ((bodyB b).length = m6) := hide (by rw [HBL.out]; exact hm6)
          rw [hm6] at hwT hsp2
          have hnb : Hid (n + (len + 6) < 800000) := hide (by have := HN.out; omega)
          clear hqq hok1 hT ok1 okS1 hm6
          by_cases hx : x1 = 0
          · subst hx
            rw [if_pos rfl]
            rcases hcmp with hc0 | ⟨hc0, hc1⟩
            all_goals
              go_enter Try.func22, Try.ntmps22
              go_wp2_with fail
              refine hbo.mono ?_
              rintro e w2 ⟨u, rfl, hu, hb2⟩
              have hD2 := HD.out.still (only_below hb2)
              obtain ⟨c0, c1, c2, c3, c4⟩ := HCG.out w2 hD2.2
              have hfrom := hu.from
              obtain ⟨uo, ucap, rfl⟩ := hu.row.of_len
              rw [HBM.out] at hfrom ⊢
              go_wp2_with fail
              refine (hss _).mono ?_
              rintro e w4 ⟨rfl, hb4⟩
              have hb14 := kl_step hb4 hb2
              have hu4 := hu.kept hb4
              rw [HBM.out] at hu4
              have hsz4 := Nat.le_trans HSZ.out hb14.size
              have hp4 := hrp w4 (HD.out.still (only_below hb14)) (.slice uo m6 ucap) hu4.row (by
                intro _ vb off n' cap e
                have := hfrom vb off n' cap e
                have := HSZ.out
                simp
                omega)
              clear hrp hss hb2 hb4 hD2 hu hu4 hfrom c0 c1 c2 c3 c4
              go_wp2_with fail
              refine hp4.mono ?_
              rintro e w5 ⟨rfl, hD5, hO5⟩
              have hO15 := (only_below (l := [L.pb, L.bb]) hb14).trans hO5
              have hsz5 : base ≤ w5.heap.size := Nat.le_trans hsz4 hO5.size
              have hrow : Row (w5.alloc (.cells #[.int .u8 0] 5)) (.slice (some ⟨w5.heap.size, 0, none⟩) 1 1) [0] := row_new1 w5 0 (by omega)
              have hD6 := hD5.still (only_grown (World.grownBy_alloc w5 (.cells #[.int .u8 0] 5) none) (by simp))
              have hO6 : Only [L.pb, L.bb] w (w5.alloc (.cells #[.int .u8 0] 5)) := hO15.trans (only_grown (World.grownBy_alloc w5 (.cells #[.int .u8 0] 5) none) (by simp))
              have hpg2 := RProgram_any base _ L S1 { N with bs := bs1 } (n + (len + 6)) hD6 HS1.out HO1.out hnb.out T (wf_i64 (by omega) (by have := hTb.out; omega)) _ [0] hrow (by simp) (by intro _ vb off n cap e; simp at e ⊢; omega)
              simp only at hpg2
              clear hp4 hD5 hO5 hrow hD6 hb14
              go_wp2_with fail
              refine hpg2.mono ?_
              rintro e w7 ⟨rfl, hD7, hO7⟩
              go_wp2
              go_ret
              exact ⟨rfl, hD7, hO6.trans hO7⟩
          · rw [if_neg hx]
            have hx' : (x1 != 0) = true := by simpa using hx
            clear hx
            rcases hcmp with hc0 | ⟨hc0, hc1⟩
            all_goals
              go_enter Try.func22, Try.ntmps22
              go_wp2_with fail
              refine hbo.mono ?_
              rintro e w2 ⟨u, rfl, hu, hb2⟩
              have hD2 := HD.out.still (only_below hb2)
              obtain ⟨c0, c1, c2, c3, c4⟩ := HCG.out w2 hD2.2
              have hfrom := hu.from
              obtain ⟨uo, ucap, rfl⟩ := hu.row.of_len
              rw [HBM.out] at hfrom ⊢
              go_wp2_with fail
              refine (hss _).mono ?_
              rintro e w4 ⟨rfl, hb4⟩
              have hb14 := kl_step hb4 hb2
              have hu4 := hu.kept hb4
              rw [HBM.out] at hu4
              have hsz4 := Nat.le_trans HSZ.out hb14.size
              have hp4 := hrp w4 (HD.out.still (only_below hb14)) (.slice uo m6 ucap) hu4.row (by
                intro _ vb off n' cap e
                have := hfrom vb off n' cap e
                have := HSZ.out
                simp
                omega)
              clear hrp hss hb2 hb4 hD2 hu hu4 hfrom c0 c1 c2 c3 c4
              go_wp2_with fail
              refine hp4.mono ?_
              rintro e w5 ⟨rfl, hD5, hO5⟩
              have hO15 := (only_below (l := [L.pb, L.bb]) hb14).trans hO5
              go_wp2
              go_ret
              exact ⟨rfl, hD5, hO15⟩
  · have hh' : isHalf hf = false := by simpa using hh
    have e1 : appH S N hf q b = (1, S, N.bs) := by unfold appH; rw [if_pos (.inl hh')]
    rw [e1]
    obtain ⟨hc0, hc1⟩ := half_cmp_no hh'
    clear e1 okS ok hr hv hq hh hh'
    go_enter Try.func22, Try.ntmps22
    go_wp2
    go_ret
    exact ⟨rfl, h, Only.refl _ _⟩
end Go.Proofs.Ytgkgbbffgcmekaa
