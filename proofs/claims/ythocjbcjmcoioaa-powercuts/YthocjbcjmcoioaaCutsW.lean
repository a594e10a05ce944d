/-
  The walk of garretlaw03.PowerCuts.
-/
import Derived.Test.YthocjbcjmcoioaaPowNil
import Derived.Test.YthocjbcjmcoioaaAwake03
import Derived.OpenShut
namespace Go.Proofs.Ythocjbcjmcoioaa
open Go.RowKit
set_option linter.unusedVariables false

/-- So many steps of those that are left are done. -/
theorem step_left (n k : Nat) (mask : Int) (h : k < n) : PSt.step ⟨false, true, (n : Int) - k, mask, k, []⟩ = (true, false, ⟨false, true, (n : Int) - (k + 1 : Nat), mask, (k + 1 : Nat), []⟩) := by
  have : ((n : Int) - k == 0) = false := by simp; omega
  simp [PSt.step, this]; omega
theorem step_last (n : Nat) (mask : Int) : PSt.step ⟨false, true, (n : Int) - n, mask, n, []⟩ = (false, true, ⟨true, true, (n : Int) - n, mask, n, []⟩) := by
  simp [PSt.step]

set_option maxHeartbeats 2000000 in
theorem PowerCuts_walk (n0 m0 mask : Int) (w : World) (w0 : (Lit.int .i64 n0).wf = true) (w1 : (Lit.int .i64 m0).wf = true) (w2 : (Lit.int .u8 mask).wf = true) :
    Calls Try.prog 4 #[.int .i64 n0, .int .i64 m0, .int .u8 mask] w fun e w' => e = .returned (.bool true) ∧ Below w.heap.size w w' := by
  obtain ⟨n, hn, hcn⟩ := cut_n n0 300 (by omega) (by omega)
  obtain ⟨m, hm, hcm⟩ := cut_n m0 20 (by omega) (by omega)
  rw [show ((300 : Nat) : Int) = 300 from rfl] at hcn
  rw [show ((20 : Nat) : Int) = 20 from rfl] at hcm
  have hmask := wf_u8 w2
  clear w0 w1 w2
  go_enter Try.func4, Try.ntmps4
  go_wp2_with fail
  refine (New_any _).mono ?_
  rintro e w1 ⟨rfl, hw1⟩
  have hP := Pow.new w (w.heap.size + 1) (by omega)
  rw [← hw1] at hP
  have hb1 : Below w.heap.size w w1 := hw1 ▸ (Below.refl _ _).alloc (Nat.le_refl _) _
  clear hw1
  generalize hbn : w.heap.size = b at *
  have hs1 := hb1.size
  have hlt1 : b < w1.heap.size := by obtain ⟨_, h, _⟩ := hP; exact h.lt
  go_wp2_with fail
  refine (awake_any _).mono ?_
  rintro e w2 ⟨rfl, hb2⟩
  have hP2 := hP.kept (below_grown hb2 none) (by simp)
  have hB2 : Below b w w2 := hb1.trans (hb2.mono (by omega))
  clear hb2 hb1 hP
  go_wp2_with fail
  refine (Cut_any _ _ _ _ n mask hP2).mono ?_
  rintro e w3 ⟨rfl, hP3, hg3⟩
  have hP3' : Pow (b + 1) w3 b ⟨false, true, (n : Int) - (0 : Nat), mask, (0 : Nat), []⟩ := by
    have : PSt.zero.cut n mask = ⟨false, true, (n : Int) - (0 : Nat), mask, (0 : Nat), []⟩ := by simp [PSt.zero, PSt.cut]
    rwa [this] at hP3
  have hs2 := hB2.size
  have hB3 : Below b w w3 := hB2.grown hg3 (by omega) (by simp)
  clear hP3 hg3 hP2 hB2 hlt1 hs1
  go_wp2
  go_loopw [8] (fun i wr => ∃ k : Nat, k ≤ n ∧ i = .int .i64 k ∧ Pow (b + 1) wr b ⟨false, true, (n : Int) - k, mask, k, []⟩ ∧ Below b w wr) (fun i _ => n - (intOf i).toNat)
  case atStart => exact ⟨0, Nat.zero_le _, rfl, hP3', hB3⟩
  case round =>
    obtain ⟨k, hk, rfl, hPk, hBk⟩ := hrel
    have hsk := hBk.size
    clear hP3' hB3
    by_cases hlt : k < n
    · go_wp2_with fail
      refine (Step_any _ _ _ _ 300 hPk ⟨by simp, by simp; omega, by simp; omega, wf_i64 (by simp; omega) (by simp; omega), hmask⟩ (by omega)).mono ?_
      rintro e w4 ⟨rfl, hP4, hg4⟩
      rw [step_left n k mask hlt] at *
      have hB4 : Below b w w4 := hBk.grown hg4 (by omega) (by simp)
      clear hPk hBk hg4
      go_wp2_with fail
      refine (Off_any _ _ _ _ hP4).mono ?_
      rintro e w5 ⟨rfl, rfl⟩
      go_wp2
      go_roundw
      case rel => exact ⟨k + 1, by omega, by go_num, hP4, hB4⟩
      case measure => simp [intOf]; omega
    · obtain rfl : k = n := by omega
      go_wp2_with fail
      refine (Step_any _ _ _ _ 300 hPk ⟨by simp, by simp; omega, by simp, wf_i64 (by simp) (by simp), hmask⟩ (by omega)).mono ?_
      rintro e w4 ⟨rfl, hP4, hg4⟩
      rw [step_last k mask] at *
      have hB4 : Below b w w4 := hBk.grown hg4 (by omega) (by simp)
      clear hPk hBk hg4
      go_wp2_with fail
      refine (Off_any _ _ _ _ hP4).mono ?_
      rintro e w5 ⟨rfl, rfl⟩
      go_wp2
      go_loopw [13] (fun i wr => ∃ j : Nat, j ≤ m ∧ i = .int .i64 j ∧ Pow (b + 1) wr b ⟨true, true, (k : Int) - k, mask, k, []⟩ ∧ Below b w wr) (fun i _ => m - (intOf i).toNat)
      case atStart => exact ⟨0, Nat.zero_le _, rfl, hP4, hB4⟩
      case round =>
        obtain ⟨j, hj, rfl, hPj, hBj⟩ := hrel
        clear hP4 hB4
        have hsj := hBj.size
        by_cases hjm : j < m
        · go_wp2_with fail
          refine (Step_any _ _ _ _ 300 hPj ⟨by simp, by simp; omega, by simp, wf_i64 (by simp) (by simp), hmask⟩ (by omega)).mono ?_
          rintro e w6 ⟨rfl, hP6, hg6⟩
          rw [show PSt.step ⟨true, true, (k : Int) - k, mask, k, []⟩ = (false, false, ⟨true, true, (k : Int) - k, mask, k, []⟩) from rfl] at *
          have hB6 : Below b w w6 := hBj.grown hg6 (by omega) (by simp)
          clear hPj hBj hg6
          go_wp2
          go_roundw
          case rel => exact ⟨j + 1, by omega, by go_num, hP6, hB6⟩
          case measure => simp [intOf]; omega
        · obtain rfl : j = m := by omega
          go_wp2_with fail
          refine (On_any _ _ _ _ hPj).mono ?_
          rintro e w6 ⟨rfl, hP6, hg6⟩
          rw [show PSt.on ⟨true, true, (k : Int) - k, mask, k, []⟩ = ⟨false, false, (k : Int) - k, mask, k, []⟩ from rfl] at hP6
          have hB6 : Below b w w6 := hBj.grown hg6 (by omega) (by simp)
          have hs6 := hB6.size
          clear hPj hBj hg6
          go_wp2_with fail
          refine (Step_any _ _ _ _ 300 hP6 ⟨by simp, by simp; omega, by simp, wf_i64 (by simp) (by simp), hmask⟩ (by omega)).mono ?_
          rintro e w7 ⟨rfl, hP7, hg7⟩
          rw [show PSt.step ⟨false, false, (k : Int) - k, mask, k, []⟩ = (true, false, ⟨false, false, (k : Int) - k, mask, (k : Int) + 1, []⟩) from rfl] at *
          have hB7 : Below b w w7 := hB6.grown hg7 (by omega) (by simp)
          clear hP6 hB6 hg7
          go_wp2_with fail
          refine (CutNil_any _ _ _).mono ?_
          rintro e w8 ⟨rfl, rfl⟩
          go_wp2_with fail
          refine (FailNil_any _ _).mono ?_
          rintro e w9 ⟨rfl, rfl⟩
          go_wp2_with fail
          refine (OnNil_any _).mono ?_
          rintro e w10 ⟨rfl, rfl⟩
          go_wp2_with fail
          refine (StepNil_any _).mono ?_
          rintro e w11 ⟨rfl, rfl⟩
          go_wp2_with fail
          refine (Steps_any _ _ _ _ hP7).mono ?_
          rintro e w12 ⟨rfl, rfl⟩
          go_wp2_with fail
          refine (Mask_any _ _ _ _ hP7).mono ?_
          rintro e w13 ⟨rfl, rfl⟩
          go_wp2_with fail
          refine (OffNil_any _).mono ?_
          rintro e w14 ⟨rfl, rfl⟩
          go_wp2_with fail
          refine (FailsNil_any _).mono ?_
          rintro e w15 ⟨rfl, rfl⟩
          go_wp2_with fail
          refine (MaskNil_any _).mono ?_
          rintro e w16 ⟨rfl, rfl⟩
          go_wp2_with fail
          refine (StepsNil_any _).mono ?_
          rintro e w17 ⟨rfl, rfl⟩
          go_wp2
          go_ret
          exact ⟨rfl, by rw [hbn]; exact hB7⟩
end Go.Proofs.Ythocjbcjmcoioaa
