/-
  Two rows of entries held against each other: garrethelp's Plain.
-/
import Derived.Test.YtlfodhffecadoaaEntM
import Derived.Test.YtlfodhffecadoaaNameA
import Derived.OpenShut
namespace Go.Proofs.Ytlfodhffecadoaa
open Go.RowKit
set_option linter.unusedVariables false
set_option maxRecDepth 100000

instance : DecidableEq En := fun x y => decidable_of_iff (bl x.s = bl y.s ∧ x.n = y.n) ⟨fun h => En.ext' h.1 h.2, fun h => by subst h; exact ⟨rfl, rfl⟩⟩
theorem take_moreE {l : List En} {k : Nat} (h : k < l.length) : l.take (k + 1) = l.take k ++ [l.getD k default] := by
  rw [List.take_succ_eq_append_getElem h]; simp [List.getD, List.getElem?_eq_getElem h]

set_option maxHeartbeats 1000000 in
theorem oneE_any (w : World) (f : ByteArray) (a : Int) (f' : ByteArray) (a' : Int) : Calls Try.prog 30 #[.agg #[.string f, .int .i64 a], .agg #[.string f', .int .i64 a']] w (SaysB (decide ((⟨f, a⟩ : En) = ⟨f', a'⟩)) w) := by
  have hB : Below w.heap.size w ((w.alloc (.cells #[.string f, .int .i64 a] 38)).alloc (.cells #[.string f', .int .i64 a'] 38)) := ((Below.refl _ _).alloc (Nat.le_refl _) _).alloc (by simp) _
  have HB := hide hB
  clear hB
  have hparts : (f = f' ∧ a = a') ∨ ((f.toList == f'.toList) = false ∧ ¬ (⟨f, a⟩ : En) = ⟨f', a'⟩) ∨ (f = f' ∧ (a == a') = false ∧ ¬ (⟨f, a⟩ : En) = ⟨f', a'⟩) := by
    by_cases h1 : f = f'
    · by_cases h2 : a = a'
      · exact .inl ⟨h1, h2⟩
      · exact .inr (.inr ⟨h1, beq_eq_false_iff_ne.2 h2, fun h => h2 (by simpa using congrArg En.n h)⟩)
    · refine .inr (.inl ⟨beq_eq_false_iff_ne.2 fun h => h1 ?_, fun h => h1 (by simpa using congrArg En.s h)⟩)
      rw [Lib.toList_data, Lib.toList_data] at h
      exact bl_inj h
  rcases hparts with ⟨rfl, rfl⟩ | ⟨h1, h4⟩ | ⟨rfl, h2, h4⟩
  · rw [decide_eq_true rfl]
    go_enter Try.func30, Try.ntmps30
    go_wp2
    go_ret
    exact ⟨rfl, HB.out⟩
  · rw [decide_eq_false h4]
    clear h4
    go_enter Try.func30, Try.ntmps30
    go_wp2
    go_ret
    exact ⟨rfl, HB.out⟩
  · rw [decide_eq_false h4]
    clear h4
    go_enter Try.func30, Try.ntmps30
    go_wp2
    go_ret
    exact ⟨rfl, HB.out⟩

theorem take_same {xs ys : List En} {k : Nat} (hx : k < xs.length) (hy : k < ys.length) (h : xs.take k = ys.take k) (e : xs.getD k default = ys.getD k default) : xs.take (k + 1) = ys.take (k + 1) := by
  rw [take_moreE hx, take_moreE hy, h, e]

/-- Two entries that are read. -/
def Two4 (b o c q : Nat) (r p : En) (w0 w' : World) : Prop :=
  ((w'.cell? ⟨b, o, none⟩ = some (.string p.s) ∧ w'.cell? ⟨b, o + 1, none⟩ = some (.int .i64 p.n)) ∧
   (w'.cell? ⟨c, q, none⟩ = some (.string r.s) ∧ w'.cell? ⟨c, q + 1, none⟩ = some (.int .i64 r.n))) ∧ Below w0.heap.size w0 w'
theorem Two4.step {b o c q : Nat} {r p : En} {w0 w w' : World} (hb : Below w.heap.size w w') (h : Two4 b o c q r p w0 w) : Two4 b o c q r p w0 w' := by
  obtain ⟨⟨⟨h0, h1⟩, h3, h4⟩, h6⟩ := h
  exact ⟨⟨⟨kl_cell hb h0, kl_cell hb h1⟩, kl_cell hb h3, kl_cell hb h4⟩, h6.trans (hb.mono h6.size)⟩

set_option maxHeartbeats 4000000 in
theorem SameE_any (w : World) (a b : Value) (xs ys : List En) (ha : ERow w a xs) (hb : ERow w b ys) :
    Calls Try.prog 29 #[a, b, .func (.func 30) #[] #[]] w (SaysB (decide (xs = ys)) w) := by
  have hla := ha.lenRun
  have hlb := hb.lenRun
  have hxm := ha.len
  unfold maxLen at hxm
  have HA := hide ha
  have HB := hide hb
  clear ha hb
  by_cases hn : xs.length = ys.length
  · obtain ⟨len, hL⟩ : ∃ n, xs.length = n := ⟨_, rfl⟩
    have HX := hide hL
    have HY := hide (hn.symm.trans hL)
    simp only [← hn] at hlb
    rw [hL] at hxm
    simp only [hL] at hla hlb
    clear hL hn
    go_enter Try.func29, Try.ntmps29
    go_wp2
    go_loopw [7] (fun i wr => ∃ k : Nat, k ≤ len ∧ i = .int .i64 k ∧ xs.take k = ys.take k ∧ Below w.heap.size w wr) (fun i _ => len - (intOf i).toNat)
    case atStart => exact ⟨0, Nat.zero_le _, rfl, by simp, Below.refl _ _⟩
    case round =>
      obtain ⟨k, hk, rfl, htk, hbk⟩ := hrel
      have HT := hide htk
      clear htk
      by_cases hlt : k < len
      · have hlt' : (k : Int) < len := by omega
        have hkx : k < xs.length := by rw [HX.out]; exact hlt
        have hky : k < ys.length := by rw [HY.out]; exact hlt
        obtain ⟨ba, oa, hsa, hia, a0, a1⟩ := (HA.out.below hbk).idx k hkx
        obtain ⟨bb, ob, hsb, hib, b0, b1⟩ := (HB.out.below hbk).idx k hky
        have hmt := take_same hkx hky HT.out
        have hmf : xs.getD k default ≠ ys.getD k default → decide (xs = ys) = false := fun h => decide_eq_false (fun e => h (by rw [e]))
        generalize xs.getD k default = x at *
        generalize ys.getD k default = y at *
        obtain ⟨f, a⟩ := x
        obtain ⟨f', a'⟩ := y
        simp only at a0 a1 b0 b1
        have hon := fun w => oneE_any w f a f' a'
        have HS : Hid (Two4 ba oa bb ob ⟨f', a'⟩ ⟨f, a⟩ wr wr) := hide ⟨⟨⟨a0, a1⟩, b0, b1⟩, Below.refl _ _⟩
        have HMT := hide hmt
        have HMF := hide hmf
        have HBK := hide hbk
        clear hmt hmf a0 a1 b0 b1 hbk
        generalize hd : decide ((⟨f, a⟩ : En) = ⟨f', a'⟩) = d at *
        have HD := hide hd
        clear hd
        go_wp2_with fail
        go_region_held3 (fun w' => ((w'.cell? ⟨ba, oa, none⟩ = some (.string f) ∧ w'.cell? ⟨ba, oa + 1, none⟩ = some (.int .i64 a)) ∧
   (w'.cell? ⟨bb, ob, none⟩ = some (.string f') ∧ w'.cell? ⟨bb, ob + 1, none⟩ = some (.int .i64 a'))) ∧ Below wr.heap.size wr w')
          (first
            | assumption
            | exact Two4.step (kl_drew _) HS.out
            | exact Two4.step hb9 (show Two4 ba oa bb ob ⟨f', a'⟩ ⟨f, a⟩ wr _ by assumption)
            | fail)
          (first
            | (go_at_call 30; refine (hon _).mono ?_; rintro x w9 ⟨rfl, hb9⟩)
            | fail)
        have hX : Two4 ba oa bb ob ⟨f', a'⟩ ⟨f, a⟩ wr w9 := by assumption
        have hB9 : Below w.heap.size w w9 := HBK.out.trans (hX.2.mono HBK.out.size)
        clear hX hb9
        cases d with
        | true =>
          have HN := hide (HMT.out (of_decide_eq_true HD.out))
          go_wp2
          exact ⟨⟨k + 1, by omega, by go_num, HN.out, hB9⟩, by simp [intOf]; omega⟩
        | false =>
          have HN := hide (HMF.out (of_decide_eq_false HD.out))
          go_wp2
          go_ret
          exact ⟨ret_one (congrArg Value.bool HN.out.symm), hB9⟩
      · obtain rfl : k = len := by omega
        have HD := hide (show decide (xs = ys) = true from decide_eq_true (by
          have := HT.out
          rwa [List.take_of_length_le (by rw [HX.out]; exact Nat.le_refl _), List.take_of_length_le (by rw [HY.out]; exact Nat.le_refl _)] at this))
        go_wp2
        go_ret
        exact ⟨ret_one (congrArg Value.bool HD.out.symm), hbk⟩
  · have hne : ((xs.length : Int) != (ys.length : Int)) = true := by simp; omega
    rw [show decide (xs = ys) = false from decide_eq_false (fun e => hn (by rw [e]))]
    generalize xs.length = n at *
    generalize ys.length = m at *
    clear hn
    go_enter Try.func29, Try.ntmps29
    go_wp2
    go_ret
    exact ⟨rfl, Below.refl _ _⟩

theorem PlainE_any (w : World) (a b : Value) (xs ys : List En) (ha : ERow w a xs) (hb : ERow w b ys) :
    Calls Try.prog 19 #[a, b] w (SaysB (decide (xs = ys)) w) := by
  have hs := SameE_any w a b xs ys ha hb
  generalize decide (xs = ys) = d at *
  clear ha hb
  go_enter Try.func19, Try.ntmps19
  go_wp2_with fail
  refine hs.mono ?_
  rintro e w1 ⟨rfl, hb1⟩
  go_wp2
  go_ret
  exact ⟨rfl, hb1⟩
end Go.Proofs.Ytlfodhffecadoaa
