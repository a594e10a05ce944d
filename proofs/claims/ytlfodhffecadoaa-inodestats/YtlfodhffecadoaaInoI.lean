/-
  The document's GetRun.
-/
import Derived.BigQuiet
import Derived.Deep.QuietTactic
import Derived.Test.YtlfodhffecadoaaRunsC
namespace Go.Proofs.Ytlfodhffecadoaa
open Go.RowKit
set_option linter.unusedVariables false
set_option maxRecDepth 100000

theorem bel_drewR {B : Nat} {w0 w : World} (h : Below B w0 w) (q : Nat) : Below B w0 (w.drewN q) := ⟨h.os, h.tape, h.output, h.size, h.block⟩
set_option maxHeartbeats 4000000 in
theorem RGet_any (w : World) (v : Value) (l : List Rn) (q : Int) (h : RRow w v l) (hr : rightS l = true) (hq : 0 ≤ q ∧ q < 64) :
    Calls Try.prog 37 #[v, .int .i64 q] w (SaysG (getS l q) w) := by
  have hlr := h.lenRun
  have hlm := h.len
  unfold maxLen at hlm
  have HR := hide h
  have HW := hide (right_all hr)
  clear h hr
  obtain ⟨hq0, hq1⟩ := hq
  obtain ⟨len, hL⟩ : ∃ n, l.length = n := ⟨_, rfl⟩
  have HL := hide hL
  rw [hL] at hlm
  simp only [hL] at hlr
  clear hL
  go_enter Try.func37, Try.ntmps37
  go_wp2
  go_loopw [6] (fun i wr => ∃ k : Nat, k ≤ len ∧ i = .int .i64 k ∧ Hid (getS (l.take k) q = none) ∧ Hid (Below w.heap.size w wr)) (fun i _ => len - (intOf i).toNat)
  case atStart => exact ⟨0, Nat.zero_le _, rfl, hide (by simp [getS]), hide (Below.refl _ _)⟩
  case round =>
    obtain ⟨k, hk, rfl, HG, HB⟩ := hrel
    by_cases hlt : k < len
    · have hlt' : (k : Int) < len := by omega
      have hkl : k < l.length := by rw [HL.out]; exact hlt
      obtain ⟨b, o, hbs, hix, c0, c1, c2⟩ := (HR.out.below HB.out).idx k hkl
      have HMO := hide (get_more hkl HG.out)
      have hmi := within_iff.1 (HW.out _ (getD_mem hkl))
      generalize hr : l.getD k default = r at *
      obtain ⟨f, a, n⟩ := r
      simp only at c0 c1 c2 hmi HMO
      obtain ⟨m0, m1, m2, m3, m4⟩ := hmi
      clear hr hbs
      have d0 : decide (0 < n) = true := decide_eq_true (by omega)
      by_cases h1 : f ≤ q
      · have d1 : decide (f ≤ q) = true := decide_eq_true h1
        have e1 : IntKind.i64.wrap (q - f) = q - f := in64 _ (by omega)
        have e2 : IntKind.u64.wrap (q - f) = q - f := u64_in _ (by omega)
        have e3 : IntKind.u64.wrap n = n := u64_in _ (by omega)
        by_cases h2 : q - f < n
        · have d2 : decide (q - f < n) = true := decide_eq_true h2
          have hh : hasS ⟨f, a, n⟩ q = true := has_iff.2 (by simp only; omega)
          have HS := hide (get_some (x := a + (q - f)) (k + 1) (HMO.out.trans (by simp [hh])))
          have e4 : IntKind.i64.wrap (a + q) = a + q := in64 _ (by omega)
          have e5 : IntKind.i64.wrap (a + q - f) = a + q - f := in64 _ (by omega)
          have HE := hide (show a + q - f = a + (q - f) by omega)
          clear hh h2 h1 HMO
          go_wp2_with fail
          go_quiet (fail)
          go_wp2_with fail
          go_quiet (fail)
          go_wp2
          go_ret2
          refine ⟨?_, bel_drewR (bel_drewR HB.out _) _⟩
          rw [HS.out]
          exact ret_two (congrArg (Value.int .i64) HE.out) rfl
        · have d2 : decide (q - f < n) = false := decide_eq_false h2
          have hh : hasS ⟨f, a, n⟩ q = false := by rw [Bool.eq_false_iff]; intro e; have := has_iff.1 e; simp only at this; omega
          have HS := hide (show getS (l.take (k + 1)) q = none from HMO.out.trans (by simp [hh]))
          clear hh h2 h1 HMO
          go_wp2_with fail
          go_quiet (fail)
          go_wp2
          exact ⟨⟨k + 1, by omega, by go_num, HS, hide (bel_drewR HB.out _)⟩, by simp [intOf]; omega⟩
      · have d1 : decide (f ≤ q) = false := decide_eq_false h1
        have hh : hasS ⟨f, a, n⟩ q = false := by rw [Bool.eq_false_iff]; intro e; have := has_iff.1 e; simp only at this; omega
        have HS := hide (show getS (l.take (k + 1)) q = none from HMO.out.trans (by simp [hh]))
        clear hh h1 HMO
        go_wp2_with fail
        go_quiet (fail)
        go_wp2
        exact ⟨⟨k + 1, by omega, by go_num, HS, hide (bel_drewR HB.out _)⟩, by simp [intOf]; omega⟩
    · obtain rfl : k = len := by omega
      have hd : getS l q = none := by have := HG.out; rw [List.take_of_length_le (by rw [HL.out]; exact Nat.le_refl _)] at this; exact this
      have HD := hide hd
      clear hd
      go_wp2
      go_ret2
      refine ⟨?_, HB.out⟩
      rw [HD.out]
      rfl
end Go.Proofs.Ytlfodhffecadoaa
