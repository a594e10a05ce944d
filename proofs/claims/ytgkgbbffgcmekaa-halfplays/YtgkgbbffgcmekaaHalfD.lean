/-
  The contracts of package half: Append.
-/
import Derived.Test.YtgkgbbffgcmekaaHalfC
import Derived.Test.YtgkgbbffgcmekaaKeptN
namespace Go.Proofs.Ytgkgbbffgcmekaa
open Go.RowKit
set_option linter.unusedVariables false
set_option maxRecDepth 100000

theorem HAppendNil_any (w : World) (hf q : Int) (v : Value) : Calls Try.prog 21 #[.pointer none, .int .i64 hf, .int .i64 q, v] w fun e w' => e = .returned (.int .i64 2) ∧ w' = w := by
  have hre := refusal_any w none hf
  go_enter Try.func21, Try.ntmps21
  go_wp2_with fail
  refine hre.mono ?_
  rintro e w1 ⟨rfl, rfl⟩
  simp only [if_true]
  go_wp2
  go_ret
  exact ⟨rfl, rfl⟩

set_option maxHeartbeats 600000 in
theorem HAppend_any (base : Nat) (w : World) (L : Lay) (S : PSt) (N : NSt) (n : Nat) (h : Dev base w L S N) (okS : S.Ok n) (ok : N.Ok n) (hr : RightG N) (hn : n < 700000) (hsz : base ≤ w.heap.size) (hf q : Int) (hq : (Lit.int .i64 q).wf = true)
    (v : Value) (b : List Int) (hv : Row w v b) :
    Calls Try.prog 21 #[.pointer (some ⟨L.c, 0, none⟩), .int .i64 hf, .int .i64 q, v] w fun e w' =>
      e = .returned (.int .i64 (appH S N hf q b).1) ∧ Dev base w' L (appH S N hf q b).2.1 { N with bs := (appH S N hf q b).2.2 } ∧ Only [L.pb, L.bb] w w' := by
  have hre := refusal_any w (some ⟨L.c, 0, none⟩) hf
  by_cases hh : isHalf hf = true
  · rw [hh] at hre
    have hfr : 0 ≤ hf ∧ hf ≤ 1 := by rcases isHalf_of hh with rfl | rfl <;> omega
    by_cases hq0 : q < 0
    · have e1 : appH S N hf q b = (1, S, N.bs) := by unfold appH; rw [if_pos (.inr hq0)]
      rw [e1]
      clear e1 okS ok hr hv hq
      go_enter Try.func21, Try.ntmps21
      go_wp2_with fail
      refine hre.mono ?_
      rintro e w1 ⟨rfl, rfl⟩
      simp only [if_true, if_false, reduceCtorEq]
      go_wp2
      go_ret
      exact ⟨rfl, h, Only.refl _ _⟩
    · have hbo := Body_any w v b hv
      have hq' := of_wf_i64 hq
      by_cases hbig : 65000 < b.length
      · have e1 : appH S N hf q b = (21, S, N.bs) := by unfold appH; rw [if_neg (by rw [hh]; simp; omega), if_pos hbig]
        have e2 : bodyS b = ([], 21) := by unfold bodyS; rw [if_pos hbig]
        rw [e1]
        rw [e2] at hbo
        have HD := hide h
        clear e1 e2 okS ok hr hv hq h hbig
        go_enter Try.func21, Try.ntmps21
        go_wp2_with fail
        refine hre.mono ?_
        rintro e w1 ⟨rfl, rfl⟩
        simp only [if_true, if_false, reduceCtorEq]
        go_wp2_with fail
        refine hbo.mono ?_
        rintro e w2 ⟨u, rfl, hu, hb2⟩
        go_wp2
        go_ret
        exact ⟨rfl, HD.out.still (only_below hb2), only_below hb2⟩
      · have e2 : bodyS b = (bodyB b, 0) := by unfold bodyS; rw [if_neg hbig]
        rw [e2] at hbo
        have hlenr := hv.lenRun
        have hge := fun w' (hc : Chip 70 base w' L N) => Geometry_any base w' L N hc
        have hss := fun w => HSize_any w N.A N.B N.c N.d N.e hr
        rw [show N.A / 2 * N.B = halfZ N from rfl] at hss
        have hbz := halfZ_big ok
        have hal : appH S N hf q b = if (halfZ N : Int) - q < (b.length : Int) + 7 then (10, S, N.bs) else progR S N.bs (hf * (halfZ N : Int) + q) (bodyB b) := by
          unfold appH; rw [if_neg (by rw [hh]; simp; omega), if_neg hbig]
        rw [hal]
        have hbl : b.length ≤ 65000 := by omega
        have HD := hide h
        have HBL := hide hbl
        have hpr := fun w' (hd : Dev base w' L S N) (hs : base ≤ w'.heap.size) (P : Nat) (hP : P ≤ 70000) (u : Value) (hu : Row w' u (bodyB b)) hsep => hprogram_any base w' L S N n hd okS ok hn hs P hP u (bodyB b) hu (by rw [bodyB_length]; omega) hsep
        have hlt := h.2.lt
        have hpL := hlt.2.1
        have hbL := hlt.2.2.1
        obtain ⟨P, hP, hP1, hP2⟩ : ∃ P : Nat, hf * (halfZ N : Int) = (P : Int) ∧ P ≤ 32768 ∧ True := by
          rcases isHalf_of hh with rfl | rfl
          · exact ⟨0, by simp, by omega, trivial⟩
          · exact ⟨halfZ N, by simp, by omega, trivial⟩
        rw [hP]
        have hmw : IntKind.i64.wrap (hf * (halfZ N : Int)) = (P : Int) := by rw [hP]; exact i64_in _ (by omega)
        have HSZ := hide hsz
        have HN := hide hn
        generalize hZ : halfZ N = Z at *
        obtain ⟨len, hlen⟩ : ∃ z, b.length = z := ⟨_, rfl⟩
        rw [hlen] at hlenr ⊢
        rw [hlen] at HBL hbl
        clear e2 okS ok hr hv hq h hbig hal hh hlt hP2 hZ hlen hsz hn
        unfold gcells at hge hss
        by_cases hsp : (Z : Int) - q < (len : Int) + 7
        · rw [if_pos hsp]
          go_enter Try.func21, Try.ntmps21
          go_wp2_with fail
          refine hre.mono ?_
          rintro e w1 ⟨rfl, rfl⟩
          simp only [if_true, if_false, reduceCtorEq]
          go_wp2_with fail
          refine hbo.mono ?_
          rintro e w2 ⟨u, rfl, hu, hb2⟩
          have hD2 := HD.out.still (only_below hb2)
          have hg2 := hge w2 hD2.2
          clear hge hpr
          go_wp2_with fail
          refine hg2.mono ?_
          rintro e w3 ⟨rfl, hb3⟩
          go_wp2_with fail
          refine (hss _).mono ?_
          rintro e w4 ⟨rfl, hb4⟩
          have hb14 := kl_step hb4 (kl_step hb3 hb2)
          clear hg2 hss hb2 hb3 hb4 hD2
          go_wp2_with fail
          refine (Size_any w4 (len : Int) (by omega)).mono ?_
          rintro e w5 ⟨rfl, rfl⟩
          go_wp2
          go_ret
          exact ⟨rfl, HD.out.still (only_below hb14), only_below hb14⟩
        · rw [if_neg hsp]
          obtain ⟨Q, rfl⟩ := Int.eq_ofNat_of_zero_le (show 0 ≤ q by omega)
          have haw : IntKind.i64.wrap ((P : Int) + (Q : Int)) = ((P + Q : Nat) : Int) := by rw [i64_in _ (by omega)]; simp
          rw [show (P : Int) + (Q : Int) = ((P + Q : Nat) : Int) by simp]
          have hPQ : P + Q ≤ 70000 := by omega
          generalize P + Q = R at *
          go_enter Try.func21, Try.ntmps21
          go_wp2_with fail
          refine hre.mono ?_
          rintro e w1 ⟨rfl, rfl⟩
          simp only [if_true, if_false, reduceCtorEq]
          go_wp2_with fail
          refine hbo.mono ?_
          rintro e w2 ⟨u, rfl, hu, hb2⟩
          have hD2 := HD.out.still (only_below hb2)
          have hg2 := hge w2 hD2.2
          have hfrom := hu.from
          clear hge
          go_wp2_with fail
          refine hg2.mono ?_
          rintro e w3 ⟨rfl, hb3⟩
          go_wp2_with fail
          refine (hss _).mono ?_
          rintro e w4 ⟨rfl, hb4⟩
          have hb24 := kl_step hb4 hb3
          have hb14 := kl_step hb24 hb2
          have hu4 := hu.kept hb24
          clear hg2 hss hb2 hb3 hb4 hD2 hu hb24
          go_wp2_with fail
          refine (Size_any w4 (len : Int) (by omega)).mono ?_
          rintro e w5 ⟨rfl, rfl⟩
          have hsz4 := Nat.le_trans HSZ.out hb14.size
          have hp4 := hpr w5 (HD.out.still (only_below hb14)) hsz4 R hPQ u hu4.row (by
            intro _ vb off n cap e
            have := hfrom vb off n cap e
            have := HSZ.out
            simp
            omega)
          clear hpr hu4 hfrom
          go_wp2_with fail
          refine hp4.mono ?_
          rintro e w6 ⟨rfl, hD6, hO6⟩
          go_wp2
          go_ret
          exact ⟨rfl, hD6, (only_below hb14).trans hO6⟩
  · have hh' : isHalf hf = false := by simpa using hh
    have e1 : appH S N hf q b = (1, S, N.bs) := by unfold appH; rw [if_pos (.inl hh')]
    rw [e1]
    rw [hh'] at hre
    clear e1 okS ok hr hv hq hh hh'
    go_enter Try.func21, Try.ntmps21
    go_wp2_with fail
    refine hre.mono ?_
    rintro e w1 ⟨rfl, rfl⟩
    simp only [if_false, reduceCtorEq, Bool.false_eq_true]
    go_wp2
    go_ret
    exact ⟨rfl, h, Only.refl _ _⟩
end Go.Proofs.Ytgkgbbffgcmekaa
