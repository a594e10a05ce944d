/-
  Two rows of runs held against each other: garrethelp's Plain.
-/
import Derived.Test.YtlfodhffecadoaaRunsB
import Derived.OpenShut
namespace Go.Proofs.Ytlfodhffecadoaa
open Go.RowKit
set_option linter.unusedVariables false
set_option maxRecDepth 100000

theorem Rn.ext3 {x y : Rn} (h1 : x.f = y.f) (h2 : x.a = y.a) (h3 : x.n = y.n) : x = y := by
  cases x; cases y; simp at h1 h2 h3; subst h1 h2 h3; rfl
instance : DecidableEq Rn := fun x y => decidable_of_iff (x.f = y.f ∧ x.a = y.a ∧ x.n = y.n) ⟨fun h => Rn.ext3 h.1 h.2.1 h.2.2, fun h => by subst h; exact ⟨rfl, rfl, rfl⟩⟩

set_option maxHeartbeats 1000000 in
theorem oneR_any (w : World) (f a n f' a' n' : Int) : Calls Try.prog 32 #[.agg #[.int .i64 f, .int .i64 a, .int .i64 n], .agg #[.int .i64 f', .int .i64 a', .int .i64 n']] w (SaysB (decide ((⟨f, a, n⟩ : Rn) = ⟨f', a', n'⟩)) w) := by
  have hB : Below w.heap.size w ((w.alloc (.cells #[.int .i64 f, .int .i64 a, .int .i64 n] 40)).alloc (.cells #[.int .i64 f', .int .i64 a', .int .i64 n'] 40)) := ((Below.refl _ _).alloc (Nat.le_refl _) _).alloc (by simp) _
  have HB := hide hB
  clear hB
  have hparts : (f = f' ∧ a = a' ∧ n = n') ∨ ((f == f') = false ∧ ¬ (⟨f, a, n⟩ : Rn) = ⟨f', a', n'⟩) ∨ (f = f' ∧ (a == a') = false ∧ ¬ (⟨f, a, n⟩ : Rn) = ⟨f', a', n'⟩) ∨ (f = f' ∧ a = a' ∧ (n == n') = false ∧ ¬ (⟨f, a, n⟩ : Rn) = ⟨f', a', n'⟩) := by
    by_cases h1 : f = f'
    · by_cases h2 : a = a'
      · by_cases h3 : n = n'
        · exact .inl ⟨h1, h2, h3⟩
        · exact .inr (.inr (.inr ⟨h1, h2, beq_eq_false_iff_ne.2 h3, fun h => h3 (by simpa using congrArg Rn.n h)⟩))
      · exact .inr (.inr (.inl ⟨h1, beq_eq_false_iff_ne.2 h2, fun h => h2 (by simpa using congrArg Rn.a h)⟩))
    · exact .inr (.inl ⟨beq_eq_false_iff_ne.2 h1, fun h => h1 (by simpa using congrArg Rn.f h)⟩)
  rcases hparts with ⟨rfl, rfl, rfl⟩ | ⟨h1, h4⟩ | ⟨rfl, h2, h4⟩ | ⟨rfl, rfl, h3, h4⟩
  · rw [decide_eq_true rfl]
    go_enter Try.func32, Try.ntmps32
    go_wp2
    go_ret
    exact ⟨rfl, HB.out⟩
  · rw [decide_eq_false h4]
    clear h4
    go_enter Try.func32, Try.ntmps32
    go_wp2
    go_ret
    exact ⟨rfl, HB.out⟩
  · rw [decide_eq_false h4]
    clear h4
    go_enter Try.func32, Try.ntmps32
    go_wp2
    go_ret
    exact ⟨rfl, HB.out⟩
  · rw [decide_eq_false h4]
    clear h4
    go_enter Try.func32, Try.ntmps32
    go_wp2
    go_ret
    exact ⟨rfl, HB.out⟩

theorem take_sameR {xs ys : List Rn} {k : Nat} (hx : k < xs.length) (hy : k < ys.length) (h : xs.take k = ys.take k) (e : xs.getD k default = ys.getD k default) : xs.take (k + 1) = ys.take (k + 1) := by
  rw [take_more hx, take_more hy, h, e]

/-- Two runs that are read. -/
def Two6 (b o c q : Nat) (r p : Rn) (w0 w' : World) : Prop :=
  ((w'.cell? ⟨b, o, none⟩ = some (.int .i64 p.f) ∧ w'.cell? ⟨b, o + 1, none⟩ = some (.int .i64 p.a) ∧ w'.cell? ⟨b, o + 2, none⟩ = some (.int .i64 p.n)) ∧
   (w'.cell? ⟨c, q, none⟩ = some (.int .i64 r.f) ∧ w'.cell? ⟨c, q + 1, none⟩ = some (.int .i64 r.a) ∧ w'.cell? ⟨c, q + 2, none⟩ = some (.int .i64 r.n))) ∧ Below w0.heap.size w0 w'
theorem Two6.step {b o c q : Nat} {r p : Rn} {w0 w w' : World} (hb : Below w.heap.size w w') (h : Two6 b o c q r p w0 w) : Two6 b o c q r p w0 w' := by
  obtain ⟨⟨⟨h0, h1, h2⟩, h3, h4, h5⟩, h6⟩ := h
  exact ⟨⟨⟨kl_cell hb h0, kl_cell hb h1, kl_cell hb h2⟩, kl_cell hb h3, kl_cell hb h4, kl_cell hb h5⟩, h6.trans (hb.mono h6.size)⟩

set_option maxHeartbeats 4000000 in
theorem SameR_any (w : World) (a b : Value) (xs ys : List Rn) (ha : RRow w a xs) (hb : RRow w b ys) :
    Calls Try.prog 31 #[a, b, .func (.func 32) #[] #[]] w (SaysB (decide (xs = ys)) w) := by
  have hla := ha.lenRun
  have hlb := hb.lenRun
  have hxm := ha.len
  unfold maxLen at hxm
  have HA := hide ha
  have HB := hide hb
  clear ha hb
  by_cases hn : xs.length = ys.length
  · obtain ⟨len, hL⟩ : ∃ n, xs.length = n := ⟨_, rfl⟩
    have HX := hide hL
    have HY := hide (hn.symm.trans hL)
    simp only [← hn] at hlb
    rw [hL] at hxm
    simp only [hL] at hla hlb
    clear hL hn
    go_enter Try.func31, Try.ntmps31
    go_wp2
    go_loopw [7] (fun i wr => ∃ k : Nat, k ≤ len ∧ i = .int .i64 k ∧ xs.take k = ys.take k ∧ Below w.heap.size w wr) (fun i _ => len - (intOf i).toNat)
    case atStart => exact ⟨0, Nat.zero_le _, rfl, by simp, Below.refl _ _⟩
    case round =>
      obtain ⟨k, hk, rfl, htk, hbk⟩ := hrel
      have HT := hide htk
      clear htk
      by_cases hlt : k < len
      · have hlt' : (k : Int) < len := by omega
        have hkx : k < xs.length := by rw [HX.out]; exact hlt
        have hky : k < ys.length := by rw [HY.out]; exact hlt
        obtain ⟨ba, oa, hsa, hia, a0, a1, a2⟩ := (HA.out.below hbk).idx k hkx
        obtain ⟨bb, ob, hsb, hib, b0, b1, b2⟩ := (HB.out.below hbk).idx k hky
        have hmt := take_sameR hkx hky HT.out
        have hmf : xs.getD k default ≠ ys.getD k default → decide (xs = ys) = false := fun h => decide_eq_false (fun e => h (by rw [e]))
        generalize xs.getD k default = x at *
        generalize ys.getD k default = y at *
        obtain ⟨f, a, n⟩ := x
        obtain ⟨f', a', n'⟩ := y
        simp only at a0 a1 a2 b0 b1 b2
        have hon := fun w => oneR_any w f a n f' a' n'
        have HS : Hid (Two6 ba oa bb ob ⟨f', a', n'⟩ ⟨f, a, n⟩ wr wr) := hide ⟨⟨⟨a0, a1, a2⟩, b0, b1, b2⟩, Below.refl _ _⟩
        have HMT := hide hmt
        have HMF := hide hmf
        have HBK := hide hbk
        clear hmt hmf a0 a1 a2 b0 b1 b2 hbk
        generalize hd : decide ((⟨f, a, n⟩ : Rn) = ⟨f', a', n'⟩) = d at *
        have HD := hide hd
        clear hd
        go_wp2_with fail
        go_region_held3 (fun w' => ((w'.cell? ⟨ba, oa, none⟩ = some (.int .i64 f) ∧ w'.cell? ⟨ba, oa + 1, none⟩ = some (.int .i64 a) ∧ w'.cell? ⟨ba, oa + 2, none⟩ = some (.int .i64 n)) ∧
   (w'.cell? ⟨bb, ob, none⟩ = some (.int .i64 f') ∧ w'.cell? ⟨bb, ob + 1, none⟩ = some (.int .i64 a') ∧ w'.cell? ⟨bb, ob + 2, none⟩ = some (.int .i64 n'))) ∧ Below wr.heap.size wr w')
          (first
            | assumption
            | exact Two6.step (kl_drew _) HS.out
            | exact Two6.step hb9 (show Two6 ba oa bb ob ⟨f', a', n'⟩ ⟨f, a, n⟩ wr _ by assumption)
            | fail)
          (first
            | (go_at_call 32; refine (hon _).mono ?_; rintro x w9 ⟨rfl, hb9⟩)
            | fail)
        have hX : Two6 ba oa bb ob ⟨f', a', n'⟩ ⟨f, a, n⟩ wr w9 := by assumption
        have hB9 : Below w.heap.size w w9 := HBK.out.trans (hX.2.mono HBK.out.size)
        clear hX hb9
        cases d with
        | true =>
          have HN := hide (HMT.out (of_decide_eq_true HD.out))
          go_wp2
          exact ⟨⟨k + 1, by omega, by go_num, HN.out, hB9⟩, by simp [intOf]; omega⟩
        | false =>
          have HN := hide (HMF.out (of_decide_eq_false HD.out))
          go_wp2
          go_ret
          exact ⟨ret_one (congrArg Value.bool HN.out.symm), hB9⟩
      · obtain rfl : k = len := by omega
        have HD := hide (show decide (xs = ys) = true from decide_eq_true (by
          have := HT.out
          rwa [List.take_of_length_le (by rw [HX.out]; exact Nat.le_refl _), List.take_of_length_le (by rw [HY.out]; exact Nat.le_refl _)] at this))
        go_wp2
        go_ret
        exact ⟨ret_one (congrArg Value.bool HD.out.symm), hbk⟩
  · have hne : ((xs.length : Int) != (ys.length : Int)) = true := by simp; omega
    rw [show decide (xs = ys) = false from decide_eq_false (fun e => hn (by rw [e]))]
    generalize xs.length = n at *
    generalize ys.length = m at *
    clear hn
    go_enter Try.func31, Try.ntmps31
    go_wp2
    go_ret
    exact ⟨rfl, Below.refl _ _⟩

theorem PlainR_any (w : World) (a b : Value) (xs ys : List Rn) (ha : RRow w a xs) (hb : RRow w b ys) :
    Calls Try.prog 20 #[a, b] w (SaysB (decide (xs = ys)) w) := by
  have hs := SameR_any w a b xs ys ha hb
  generalize decide (xs = ys) = d at *
  clear ha hb
  go_enter Try.func20, Try.ntmps20
  go_wp2_with fail
  refine hs.mono ?_
  rintro e w1 ⟨rfl, hb1⟩
  go_wp2
  go_ret
  exact ⟨rfl, hb1⟩
end Go.Proofs.Ytlfodhffecadoaa
