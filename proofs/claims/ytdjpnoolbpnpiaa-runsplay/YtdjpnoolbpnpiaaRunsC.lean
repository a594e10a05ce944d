/-
  The contracts of package runs: has, Get, Count.
-/
import Derived.Test.YtdjpnoolbpnpiaaRunsB
namespace Go.Proofs.Ytdjpnoolbpnpiaa
open Go.RowKit
set_option linter.unusedVariables false
set_option maxRecDepth 100000

theorem u64_in (x : Int) (h : 0 ≤ x ∧ x ≤ 18446744073709551615) : IntKind.u64.wrap x = x := by
  rw [IntKind.wrap_u64]; omega

set_option maxHeartbeats 1000000 in
theorem has_any (w : World) (f a n k : Int) (hr : Rn.Mild ⟨f, a, n⟩) (hk : 0 ≤ k ∧ k ≤ 1000) : Calls Try.prog 20 #[.agg #[.int .i64 f, .int .i64 a, .int .i64 n], .int .i64 k] w (SaysB (hasS ⟨f, a, n⟩ k) w) := by
  obtain ⟨h0, h1, h2⟩ := hr
  simp only at h0 h1 h2
  have hB : Below w.heap.size w (w.alloc (.cells #[.int .i64 f, .int .i64 a, .int .i64 n] 39)) := (Below.refl _ _).alloc (Nat.le_refl _) _
  have HB := hide hB
  clear hB
  by_cases c1 : 0 < n
  · by_cases c2 : f ≤ k
    · have e : hasS ⟨f, a, n⟩ k = decide (k - f < n) := by simp only [hasS]; congr 1; simp only [eq_iff_iff]; omega
      have u1 : IntKind.u64.wrap k = k := u64_in _ (by omega)
      have u2 : IntKind.u64.wrap n = n := u64_in _ (by omega)
      obtain ⟨F, hF⟩ : ∃ F, IntKind.u64.wrap f = F := ⟨_, rfl⟩
      have u3 : IntKind.u64.wrap (k - F) = k - f := by
        rw [← hF, IntKind.wrap_u64, IntKind.wrap_u64]; omega
      rw [e]
      have HE := hide e
      clear e
      go_enter Try.func20, Try.ntmps20
      go_wp2
      go_ret
      exact ⟨rfl, HB.out⟩
    · have e : hasS ⟨f, a, n⟩ k = false := by simp only [hasS, decide_eq_false_iff_not]; omega
      rw [e]
      have d2 : decide (f ≤ k) = false := by simpa using c2
      clear e c2
      go_enter Try.func20, Try.ntmps20
      go_wp2
      go_ret
      exact ⟨rfl, HB.out⟩
  · have e : hasS ⟨f, a, n⟩ k = false := by simp only [hasS, decide_eq_false_iff_not]; omega
    rw [e]
    have d1 : decide (0 < n) = false := by simpa using c1
    clear e c1
    go_enter Try.func20, Try.ntmps20
    go_wp2
    go_ret
    exact ⟨rfl, HB.out⟩

/-- What Get answers. -/
def SaysG (o : Option Int) (w : World) (e : Ending) (w' : World) : Prop := e = .returned (.tuple #[.int .i64 (o.getD 0), .bool o.isSome]) ∧ Below w.heap.size w w'

set_option maxHeartbeats 4000000 in
theorem Get_any (w : World) (v : Value) (l : List Rn) (q : Int) (h : RRow w v l) (hm : ∀ r ∈ l, r.Mild) (hq : 0 ≤ q ∧ q ≤ 1000) : Calls Try.prog 8 #[v, .int .i64 q] w (SaysG (getS l q) w) := by
  have hlr := h.lenRun
  have hlm := h.len
  unfold maxLen at hlm
  have HR := hide h
  have HM := hide hm
  clear h hm
  obtain ⟨len, hL⟩ : ∃ n, l.length = n := ⟨_, rfl⟩
  have HL := hide hL
  rw [hL] at hlm
  simp only [hL] at hlr
  clear hL
  go_enter Try.func8, Try.ntmps8
  go_wp2
  go_loopw [10] (fun i wr => ∃ k : Nat, k ≤ len ∧ i = .int .i64 k ∧ getS (l.take k) q = none ∧ Below w.heap.size w wr) (fun i _ => len - (intOf i).toNat)
  case atStart => exact ⟨0, Nat.zero_le _, rfl, by simp [getS], Below.refl _ _⟩
  case round =>
    obtain ⟨k, hk, rfl, hgt, hbk⟩ := hrel
    by_cases hlt : k < len
    · have hlt' : (k : Int) < len := by omega
      have hkl : k < l.length := by rw [HL.out]; exact hlt
      obtain ⟨b, o, hbs, hix, c0, c1, c2⟩ := (HR.out.below hbk).idx k hkl
      have hmore := get_more hkl hgt
      have hmi := HM.out _ (getD_mem hkl)
      generalize hr : l.getD k default = r at *
      obtain ⟨f, a, n⟩ := r
      simp only at c0 c1 c2 hmore
      have hha := fun w => has_any w f a n q hmi hq
      obtain ⟨m0, m1, m2⟩ := hmi
      simp only at m0 m1 m2
      have HMO := hide hmore
      have HB := hide hbk
      clear hmore hgt hbk hr
      have hBl := Blk.new wr #[.int .i64 f, .int .i64 a, .int .i64 n] 39
      have hB1 : Below w.heap.size w (wr.alloc (.cells #[.int .i64 f, .int .i64 a, .int .i64 n] 39)) := HB.out.alloc HB.out.size _
      have e0 : (wr.alloc (.cells #[.int .i64 f, .int .i64 a, .int .i64 n] 39)).cell? ⟨wr.heap.size, 0, none⟩ = some (.int .i64 f) := hBl.cell 0
      have e1 : (wr.alloc (.cells #[.int .i64 f, .int .i64 a, .int .i64 n] 39)).cell? ⟨wr.heap.size, 1, none⟩ = some (.int .i64 a) := hBl.cell 1
      clear hBl
      go_wp2_with fail
      generalize wr.alloc (.cells #[.int .i64 f, .int .i64 a, .int .i64 n] 39) = W at *
      generalize wr.heap.size = c at *
      refine (hha _).mono ?_
      rintro e w9 ⟨rfl, hb9⟩
      have hB9 := kl_step hb9 hB1
      have g0 := kl_cell hb9 e0
      have g1 := kl_cell hb9 e1
      clear e0 e1 hB1 hb9
      cases hh : hasS ⟨f, a, n⟩ q with
      | true =>
        have HS := hide (get_some (x := a + (q - f)) (k + 1) (HMO.out.trans (by simp [hh])))
        have hhi := has_iff.1 hh
        simp only at hhi
        clear hh
        go_wp2
        go_ret2
        refine ⟨?_, hB9⟩
        rw [HS.out]
        rfl
      | false =>
        have HS := hide (show getS (l.take (k + 1)) q = none from HMO.out.trans (by simp [hh]))
        clear hh
        go_wp2
        exact ⟨⟨k + 1, by omega, by go_num, HS.out, hB9⟩, by simp [intOf]; omega⟩
    · obtain rfl : k = len := by omega
      have hd : getS l q = none := by rw [List.take_of_length_le (by rw [HL.out]; exact Nat.le_refl _)] at hgt; exact hgt
      have HD := hide hd
      clear hd hgt
      go_wp2
      go_ret2
      refine ⟨?_, hbk⟩
      rw [HD.out]
      rfl

set_option maxHeartbeats 4000000 in
theorem Count_any (w : World) (v : Value) (l : List Rn) (h : RRow w v l) : Calls Try.prog 10 #[v] w fun e w' => e = .returned (.int .i64 (if rightS l then cntS l else 0)) ∧ Below w.heap.size w w' := by
  have hri := Right_any w v l h
  have HR := hide h
  cases hrt : rightS l with
  | false =>
    rw [hrt] at hri
    clear h hrt
    go_enter Try.func10, Try.ntmps10
    go_wp2_with fail
    refine hri.mono ?_
    rintro e w1 ⟨rfl, hb1⟩
    go_wp2
    go_ret
    exact ⟨rfl, hb1⟩
  | true =>
    rw [hrt] at hri
    have hlr := h.lenRun
    have HT := hide hrt
    have hlb := len_bound hrt
    obtain ⟨len, hL⟩ : ∃ n, l.length = n := ⟨_, rfl⟩
    have HL := hide hL
    rw [hL] at hlb
    simp only [hL] at hlr
    clear hL h hrt
    go_enter Try.func10, Try.ntmps10
    go_wp2_with fail
    refine hri.mono ?_
    rintro e w1 ⟨rfl, hb1⟩
    go_wp2
    go_loopw [3, 11] (fun s i wr => ∃ k : Nat, k ≤ len ∧ i = .int .i64 k ∧ s = .int .i64 (cntS (l.take k)) ∧ Below w.heap.size w wr) (fun _ i _ => len - (intOf i).toNat)
    case atStart => exact ⟨0, Nat.zero_le _, rfl, by simp [cntS], hb1⟩
    case round =>
      obtain ⟨k, hk, rfl, rfl, hbk⟩ := hrel
      have hcb := cnt_bound (right_take HT.out k)
      by_cases hlt : k < len
      · have hlt' : (k : Int) < len := by omega
        have hkl : k < l.length := by rw [HL.out]; exact hlt
        obtain ⟨b, o, hbs, hix, c0, c1, c2⟩ := (HR.out.below hbk).idx k hkl
        have hmore := cnt_more hkl
        have hw := within_iff.1 (within_at (l := l) (i := k) (k := k + 1) (right_take HT.out _) (by omega) (by omega))
        generalize hr : l.getD k default = r at *
        obtain ⟨f, a, n⟩ := r
        simp only at c0 c1 c2 hmore hw
        have HMO := hide hmore
        obtain ⟨s, hs⟩ : ∃ s, cntS (l.take k) = s := ⟨_, rfl⟩
        rw [hs] at hcb HMO ⊢
        have hB1 : Below w.heap.size w (wr.alloc (.cells #[.int .i64 f, .int .i64 a, .int .i64 n] 39)) := hbk.alloc hbk.size _
        clear hmore hr hs
        go_wp2
        exact ⟨⟨k + 1, by omega, by go_num, by rw [HMO.out], hB1⟩, by simp [intOf]; omega⟩
      · obtain rfl : k = len := by omega
        rw [List.take_of_length_le (by rw [HL.out]; exact Nat.le_refl _)]
        go_wp2
        go_ret
        exact ⟨rfl, hbk⟩
end Go.Proofs.Ytdjpnoolbpnpiaa
