/-
  The contracts of package runs' small functions: isWithin, goesOn, isBehind, has.
-/
import Derived.Test.YtlfodhffecadoaaRunsM
import Derived.Test.YtlfodhffecadoaaSays
import Derived.BigQuiet
namespace Go.Proofs.Ytlfodhffecadoaa
open Go.RowKit
set_option linter.unusedVariables false
set_option maxRecDepth 100000

theorem of_wf64 {n : Int} (h : (Lit.int .i64 n).wf = true) : -9223372036854775808 ≤ n ∧ n ≤ 9223372036854775807 := by
  simp [Lit.wf, IntKind.min, IntKind.max, IntKind.signed, IntKind.bits] at h; omega


set_option maxHeartbeats 1000000 in
theorem isWithin_any (w : World) (f a n : Int) (hw : Rn.Wf ⟨f, a, n⟩) : Calls Try.prog 40 #[.agg #[.int .i64 f, .int .i64 a, .int .i64 n]] w (SaysB (withinS ⟨f, a, n⟩) w) := by
  have h0 := of_wf64 hw.f
  have h1 := of_wf64 hw.a
  have h2 := of_wf64 hw.n
  simp only at h0 h1 h2
  clear hw
  have hB : Below w.heap.size w (w.alloc (.cells #[.int .i64 f, .int .i64 a, .int .i64 n] 40)) := (Below.refl _ _).alloc (Nat.le_refl _) _
  have HB := hide hB
  clear hB
  by_cases c1 : 1 ≤ n
  · by_cases c2 : 0 ≤ f
    · by_cases c3 : f ≤ 64 - n
      · by_cases c4 : 0 ≤ a
        · have e : withinS ⟨f, a, n⟩ = decide (a ≤ 2147483647 - (n - 1)) := by
            simp only [withinS]; congr 1; simp only [eq_iff_iff]; omega
          rw [e]
          have HE := hide e
          clear e
          go_enter Try.func40, Try.ntmps40
          go_wp2
          go_ret
          exact ⟨rfl, HB.out⟩
        · have e : withinS ⟨f, a, n⟩ = false := by simp only [withinS, decide_eq_false_iff_not]; omega
          rw [e]
          have d4 : decide (0 ≤ a) = false := by simpa using c4
          clear c4 e
          go_enter Try.func40, Try.ntmps40
          go_wp2
          go_ret
          exact ⟨rfl, HB.out⟩
      · have e : withinS ⟨f, a, n⟩ = false := by simp only [withinS, decide_eq_false_iff_not]; omega
        rw [e]
        have d3 : decide (f ≤ 64 - n) = false := by simpa using c3
        clear e c3
        go_enter Try.func40, Try.ntmps40
        go_wp2
        go_ret
        exact ⟨rfl, HB.out⟩
    · have e : withinS ⟨f, a, n⟩ = false := by simp only [withinS, decide_eq_false_iff_not]; omega
      rw [e]
      have d2 : decide (0 ≤ f) = false := by simpa using c2
      clear e c2
      go_enter Try.func40, Try.ntmps40
      go_wp2
      go_ret
      exact ⟨rfl, HB.out⟩
  · have e : withinS ⟨f, a, n⟩ = false := by simp only [withinS, decide_eq_false_iff_not]; omega
    rw [e]
    have d1 : decide (1 ≤ n) = false := by simpa using c1
    clear e c1
    go_enter Try.func40, Try.ntmps40
    go_wp2
    go_ret
    exact ⟨rfl, HB.out⟩

/-- Of numbers that do not go round. -/
structure Rn.Mild (r : Rn) : Prop where
  f : -1000000 ≤ r.f ∧ r.f ≤ 1000000
  a : -5000000000 ≤ r.a ∧ r.a ≤ 5000000000
  n : -1000000 ≤ r.n ∧ r.n ≤ 1000000
theorem Rn.mild_of (r : Rn) (h : withinS r = true) : r.Mild := by
  have := within_iff.1 h
  exact ⟨by omega, by omega, by omega⟩
theorem Rn.Mild.wf {r : Rn} (h : r.Mild) : r.Wf := by
  obtain ⟨h1, h2, h3⟩ := h
  exact ⟨wf_i64 (by omega) (by omega), wf_i64 (by omega) (by omega), wf_i64 (by omega) (by omega)⟩

set_option maxHeartbeats 1000000 in
theorem goesOn_any (w : World) (f a n f' a' n' : Int) (hp : Rn.Mild ⟨f, a, n⟩) : Calls Try.prog 44 #[.agg #[.int .i64 f, .int .i64 a, .int .i64 n], .agg #[.int .i64 f', .int .i64 a', .int .i64 n']] w (SaysB (goesS ⟨f, a, n⟩ ⟨f', a', n'⟩) w) := by
  obtain ⟨p0, p1, p2⟩ := hp
  simp only at p0 p1 p2
  have hB : Below w.heap.size w ((w.alloc (.cells #[.int .i64 f, .int .i64 a, .int .i64 n] 40)).alloc (.cells #[.int .i64 f', .int .i64 a', .int .i64 n'] 40)) := ((Below.refl _ _).alloc (Nat.le_refl _) _).alloc (by simp) _
  have HB := hide hB
  clear hB
  by_cases c1 : f' = f + n
  · have d1 : (f' == f + n) = true := by simpa using c1
    have e : goesS ⟨f, a, n⟩ ⟨f', a', n'⟩ = (a' == a + n) := by
      rw [Bool.eq_iff_iff]
      simp [goesS, c1]
    rw [e]
    clear e
    have HC := hide c1
    clear c1
    go_enter Try.func44, Try.ntmps44
    go_wp2
    go_ret
    exact ⟨rfl, HB.out⟩
  · have d1 : (f' == f + n) = false := by simpa using c1
    have e : goesS ⟨f, a, n⟩ ⟨f', a', n'⟩ = false := by simp [goesS, c1]
    rw [e]
    clear e c1
    go_enter Try.func44, Try.ntmps44
    go_wp2
    go_ret
    exact ⟨rfl, HB.out⟩

set_option maxHeartbeats 1000000 in
theorem isBehind_any (w : World) (f a n f' a' n' : Int) (hp : Rn.Mild ⟨f, a, n⟩) : Calls Try.prog 41 #[.agg #[.int .i64 f, .int .i64 a, .int .i64 n], .agg #[.int .i64 f', .int .i64 a', .int .i64 n']] w (SaysB (behindS ⟨f, a, n⟩ ⟨f', a', n'⟩) w) := by
  obtain ⟨p0, p1, p2⟩ := id hp
  simp only at p0 p1 p2
  have hB : Below w.heap.size w ((w.alloc (.cells #[.int .i64 f, .int .i64 a, .int .i64 n] 40)).alloc (.cells #[.int .i64 f', .int .i64 a', .int .i64 n'] 40)) := ((Below.refl _ _).alloc (Nat.le_refl _) _).alloc (by simp) _
  have HB := hide hB
  have HP := hide hp
  clear hB hp
  by_cases c1 : f + n ≤ f'
  · have e : behindS ⟨f, a, n⟩ ⟨f', a', n'⟩ = !goesS ⟨f, a, n⟩ ⟨f', a', n'⟩ := by simp [behindS, c1]
    rw [e]
    clear e
    generalize hg : goesS ⟨f, a, n⟩ ⟨f', a', n'⟩ = g
    go_enter Try.func41, Try.ntmps41
    go_wp2_with fail
    refine (goesOn_any _ f a n f' a' n' HP.out).mono ?_
    rintro e w1 ⟨rfl, hb1⟩
    rw [hg]
    go_wp2
    go_ret
    exact ⟨rfl, HB.out.trans (hb1.mono (by simp; omega))⟩
  · have d1 : decide (f + n ≤ f') = false := by simpa using c1
    have e : behindS ⟨f, a, n⟩ ⟨f', a', n'⟩ = false := by simp [behindS, c1]
    rw [e]
    clear e c1
    go_enter Try.func41, Try.ntmps41
    go_wp2
    go_ret
    exact ⟨rfl, HB.out⟩
end Go.Proofs.Ytlfodhffecadoaa
