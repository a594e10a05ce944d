/-
  The contracts of package half: Wipe.
-/
import Derived.Test.YtgkgbbffgcmekaaHalfB
namespace Go.Proofs.Ytgkgbbffgcmekaa
open Go.RowKit
set_option linter.unusedVariables false
set_option maxRecDepth 100000

theorem HWipeNil_any (w : World) (hf : Int) : Calls Try.prog 13 #[.pointer none, .int .i64 hf] w fun e w' => e = .returned (.int .i64 2) ∧ w' = w := by
  have hre := refusal_any w none hf
  go_enter Try.func13, Try.ntmps13
  go_wp2_with fail
  refine hre.mono ?_
  rintro e w1 ⟨rfl, rfl⟩
  simp only [if_true]
  go_wp2
  go_ret
  exact ⟨rfl, rfl⟩

set_option maxHeartbeats 600000 in
theorem HWipe_any (base : Nat) (w : World) (L : Lay) (S : PSt) (N : NSt) (n : Nat) (h : Dev base w L S N) (okS : S.Ok n) (ok : N.Ok n) (hn : n < 700000) (hf : Int) :
    Calls Try.prog 13 #[.pointer (some ⟨L.c, 0, none⟩), .int .i64 hf] w fun e w' =>
      e = .returned (.int .i64 (wipeH S N hf).1) ∧ Dev base w' L (wipeH S N hf).2.1 (wipeH S N hf).2.2 ∧ Only [L.pb, L.bb, L.eb] w w' := by
  have hre := refusal_any w (some ⟨L.c, 0, none⟩) hf
  by_cases hh : isHalf hf = true
  · rw [hh] at hre
    have e1 : wipeH S N hf = wipeF hf.toNat (halfN N) (halfN N) S N := by unfold wipeH; rw [hh]; rfl
    rw [e1]
    have hge := Geometry_any base w L N h.2
    have hA1 := ok.A1
    have hss := fun w => sectors_any w N.A N.B N.c N.d N.e hA1
    rw [show N.A / 2 = halfN N from rfl] at hss
    have hK : halfN N ≤ 8 := by unfold halfN; omega
    obtain ⟨F, rfl, hF⟩ : ∃ F : Nat, hf = (F : Int) ∧ F ≤ 1 := by
      rcases isHalf_of hh with rfl | rfl
      · exact ⟨0, rfl, by omega⟩
      · exact ⟨1, rfl, by omega⟩
    rw [Int.toNat_natCast]
    have HD := hide h
    generalize halfN N = K at *
    obtain ⟨M, hM, hM2⟩ : ∃ M : Nat, F * K = M ∧ M ≤ 8 := ⟨F * K, rfl, by have := Nat.mul_le_mul hF hK; omega⟩
    have hmw0 : (F : Int) * (K : Int) = (M : Int) := by rw [← hM]; simp
    have hmw : IntKind.i64.wrap ((F : Int) * (K : Int)) = (M : Int) := by rw [hmw0]; exact i64_in _ (by omega)
    clear hmw0
    have HOK := hide okS
    have HON := hide ok
    clear h hh e1 okS ok
    unfold gcells at hge hss
    go_enter Try.func13, Try.ntmps13
    go_wp2_with fail
    refine hre.mono ?_
    rintro e w1 ⟨rfl, rfl⟩
    simp only [if_true, if_false, reduceCtorEq]
    go_wp2_with fail
    refine hge.mono ?_
    rintro e w2 ⟨rfl, hb2⟩
    go_wp2_with fail
    refine (hss _).mono ?_
    rintro e w3 ⟨rfl, hb3⟩
    have hb13 := kl_step hb3 hb2
    have HD3 := hide (HD.out.still (only_below hb13))
    clear hre hge hss hb2 hb3 HD
    go_wp2_with fail
    go_loopw [7, 8] (fun i _ wr => ∃ (k : Nat) (S' : PSt) (N' : NSt), k ≤ K ∧ i = .int .i64 ((k : Int) - 1) ∧ Dev base wr L S' N' ∧ wipeF F K K S N = wipeF F K k S' N' ∧ S'.Ok (n + (K - k)) ∧ N'.Ok (n + (K - k)) ∧ Only [L.pb, L.bb, L.eb] w1 wr) (fun i _ _ => (intOf i + 1).toNat)
    case atStart => exact ⟨K, S, N, Nat.le_refl _, rfl, HD3.out, rfl, by simpa using HOK.out, by simpa using HON.out, only_below hb13⟩
    case round =>
      obtain ⟨k, S', N', hk, rfl, hD, hW, hS, hN, hO⟩ := hrel
      cases k with
      | zero =>
        have HW := hide hW
        clear hW
        go_wp2
        go_ret
        rw [HW.out]
        exact ⟨rfl, hD, hO⟩
      | succ k =>
        have haw : IntKind.i64.wrap ((M : Int) + (k : Int)) = ((M + k : Nat) : Int) := by rw [i64_in _ (by omega)]; simp
        have hk1 : ((k + 1 : Nat) : Int) - 1 = (k : Int) := by omega
        rw [hk1]
        have her := Erase_any base wr L S' N' (n + (K - (k + 1))) hD hS hN (by omega) ((M + k : Nat) : Int)
        have hok := eraseA_ok (s := ((M + k : Nat) : Int)) hS hN
        have hcode := eraseA_code S' N' ((M + k : Nat) : Int)
        rw [wipeF, hM] at hW
        obtain ⟨⟨x, S1, N1⟩, hq⟩ : ∃ r, eraseA S' N' ((M + k : Nat) : Int) = r := ⟨_, rfl⟩
        rw [hq] at her hok hcode hW
        simp only at her hok hcode hW
        have hS1 : S1.Ok (n + (K - k)) := hok.1.more (by omega)
        have hN1 : N1.Ok (n + (K - k)) := hok.2.more (by omega)
        have hkk : k < K := by omega
        generalize hR : M + k = R at *
        clear hq hok hD hS hN hk1 hR hk
        by_cases hx : x = 0
        · subst hx
          rw [if_pos rfl] at hW
          have HW := hide hW
          have HS1 := hide hS1
          have HN1 := hide hN1
          clear hW hcode hS1 hN1
          go_wp2_with fail
          refine her.mono ?_
          rintro e w5 ⟨rfl, hD5, hO5⟩
          go_wp2
          exact ⟨⟨k, S1, N1, by omega, by go_num, hD5, HW.out, HS1.out, HN1.out, hO.trans hO5⟩, by simp [intOf]⟩
        · rw [if_neg hx] at hW
          have hx' : (x != 0) = true := by simpa using hx
          have HW := hide hW
          clear hW hcode hS1 hN1 hx
          go_wp2_with fail
          refine her.mono ?_
          rintro e w5 ⟨rfl, hD5, hO5⟩
          go_wp2
          go_ret
          rw [HW.out]
          exact ⟨rfl, hD5, hO.trans hO5⟩
  · have hh' : isHalf hf = false := by simpa using hh
    have e1 : wipeH S N hf = (1, S, N) := by unfold wipeH; rw [hh']; rfl
    rw [e1]
    rw [hh'] at hre
    clear e1 okS ok hh hh'
    go_enter Try.func13, Try.ntmps13
    go_wp2_with fail
    refine hre.mono ?_
    rintro e w1 ⟨rfl, rfl⟩
    simp only [if_false, reduceCtorEq, Bool.false_eq_true]
    go_wp2
    go_ret
    exact ⟨rfl, h, Only.refl _ _⟩
end Go.Proofs.Ytgkgbbffgcmekaa
