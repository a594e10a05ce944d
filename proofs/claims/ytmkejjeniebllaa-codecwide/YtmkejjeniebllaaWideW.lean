/-
  The walk of garretlaw01.CodecWide.
-/
import Derived.Test.YtmkejjeniebllaaAwake01
import Derived.OpenShut
namespace Go.Proofs.Ytmkejjeniebllaa
open Go.RowKit
set_option linter.unusedVariables false

theorem wide_n (n : Int) : ∃ m : Nat, 1 ≤ m ∧ m ≤ 8 ∧ wrap64 (1 + wrap64 ((IntKind.u64.wrap n).tmod 8)) = (m : Int) := by
  refine ⟨(1 + (n % 18446744073709551616) % 8).toNat, by omega, by omega, ?_⟩
  rw [IntKind.wrap_u64, Int.tmod_eq_emod_of_nonneg (Int.emod_nonneg _ (by omega))]
  have h0 : 0 ≤ n % 18446744073709551616 % 8 := Int.emod_nonneg _ (by omega)
  have h1 : n % 18446744073709551616 % 8 < 8 := Int.emod_lt_of_pos _ (by omega)
  generalize n % 18446744073709551616 % 8 = r at *
  rw [IntWalk.wrap64_in r (by omega), IntWalk.wrap64_in (1 + r) (by omega)]
  omega

set_option maxHeartbeats 1000000 in
theorem CodecWide_walk (v n : Int) (w : World) (w0 : (Lit.int .u64 v).wf = true) (w1 : (Lit.int .i64 n).wf = true) :
    Calls Try.prog 5 #[.int .u64 v, .int .i64 n] w fun e w' => e = .returned (.bool true) ∧ Below w.heap.size w w' := by
  go_enter Try.func5, Try.ntmps5
  obtain ⟨m, hm1, hm8, hm⟩ := wide_n n
  have hv := bounds_u64 w0
  have HM : Hid _ := hm
  clear hm
  go_wp2_with fail
  rw [HM.out]
  refine (Put_any _ _ [] v m (Row.nil _) (by simp) (by omega) (by omega)).mono ?_
  rintro e w2 ⟨u, rfl, ho, hb⟩
  rw [List.nil_append, held_of (by omega) (by omega), Int.toNat_natCast] at ho
  go_wp2_with fail
  refine (Get_any _ _ _ 0 m ho.row (by decide) (wf_i64 (by omega) (by omega))).mono ?_
  rintro e w3 ⟨rfl, rfl⟩
  go_wp2_with fail
  refine (Get_any _ _ _ 1 m ho.row (by decide) (wf_i64 (by omega) (by omega))).mono ?_
  rintro e w4 ⟨rfl, rfl⟩
  have g0 : getS (low v m) 0 m = (v % 2 ^ (8 * m), 0) := by
    unfold getS; rw [if_neg (by omega), if_neg (by rw [low_length]; omega)]
    have e : List.take (Int.toNat (m : Int)) (List.drop (Int.toNat 0) (low v m)) = low v m := by simp [List.take_of_length_le, low_length]
    rw [e, num_low]
  have g1 : getS (low v m) 1 m = (0, 3) := by
    unfold getS; rw [if_neg (by omega), if_pos (by rw [low_length]; omega)]
  rw [g0, g1]
  obtain ⟨ao, cap, hu⟩ := ho.row.of_len
  rw [low_length] at hu
  clear g0 g1 HM
  by_cases hlt : (m : Int) < 8
  · have hand := and_mask v m (by omega) (by omega) hm1 (by omega)
    generalize v % 2 ^ (8 * m) = r at *
    subst hu
    clear ho
    go_wp2_with fail
    refine (awake_any _).mono ?_
    rintro e w5 ⟨rfl, hb5⟩
    go_wp2
    go_ret
    exact ⟨rfl, hb.trans (hb5.mono hb.size)⟩
  · obtain rfl : m = 8 := by omega
    have hmod : v % 2 ^ (8 * 8) = v := Int.emod_eq_of_lt (by omega) (by omega)
    rw [hmod]
    subst hu
    clear ho
    go_wp2_with fail
    refine (awake_any _).mono ?_
    rintro e w5 ⟨rfl, hb5⟩
    go_wp2
    go_ret
    exact ⟨rfl, hb.trans (hb5.mono hb.size)⟩
end Go.Proofs.Ytmkejjeniebllaa
