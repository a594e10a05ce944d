/-
  Entries: the document's Right.
-/
import Derived.Test.YtlfodhffecadoaaEntT
import Derived.BigQuiet
namespace Go.Proofs.Ytlfodhffecadoaa
open Go.RowKit
set_option linter.unusedVariables false
set_option linter.unusedSimpArgs false
set_option maxRecDepth 100000

theorem bel_drewN {B : Nat} {w0 w : World} (h : Below B w0 w) (q : Nat) : Below B w0 (w.drewN q) := ⟨h.os, h.tape, h.output, h.size, h.block⟩

set_option maxHeartbeats 4000000 in
theorem RRightE_any (w : World) (v : Value) (l : List En) (h : ERow w v l) : Calls Try.prog 23 #[v] w (SaysB (rightE l) w) := by
  have hlr := h.lenRun
  have hlm := h.len
  unfold maxLen at hlm
  have HR := hide h
  clear h
  obtain ⟨len, hL⟩ : ∃ n, l.length = n := ⟨_, rfl⟩
  have HL := hide hL
  rw [hL] at hlm
  simp only [hL] at hlr
  clear hL
  go_enter Try.func23, Try.ntmps23
  go_wp2
  go_loopw [3] (fun i wr => ∃ k : Nat, k ≤ len ∧ i = .int .i64 k ∧ Hid (SoFar l k) ∧ Below w.heap.size w wr) (fun i _ => len - (intOf i).toNat)
  case atStart => exact ⟨0, Nat.zero_le _, rfl, hide (SoFar.zero l), Below.refl _ _⟩
  case round =>
    obtain ⟨k, hk, rfl, HN, hbk⟩ := hrel
    have HB := hide hbk
    by_cases hlt : k < len
    · have hlt' : (k : Int) < len := by omega
      have hkl : k < l.length := by rw [HL.out]; exact hlt
      obtain ⟨b, o, hbs, hix, c0, c1⟩ := (HR.out.below hbk).idx k hkl
      have hwf := HR.out.2 _ (getD_memE hkl)
      have hbad := fun (hs : stepE l k = false) => rightE_bad hkl hs
      have hnm := stepE_name (l := l) (k := k)
      have hno := stepE_no (l := l) (k := k)
      have hze : k = 0 → rightN (bl (l.getD k default).s) = true → 0 < (l.getD k default).n → stepE l k = true := fun e => by subst e; exact stepE_zero
      have hmo := stepE_more (l := l) (k := k)
      have hprev := fun (h0 : 0 < k) => (HR.out.below hbk).idx (k - 1) (by omega)
      generalize l.getD k default = x at *
      obtain ⟨xs, xn⟩ := x
      simp only at c0 c1 hnm hno hze hmo
      have hri := fun w => RRight_any w xs hwf.s
      cases hr : rightN (bl xs) with
      | false =>
        simp only [hr] at hri
        have HF := hide (hbad (hnm hr))
        clear hprev hr hbad hnm hno hze hmo hwf hbk
        go_wp2_with fail
        go_quiet (first | (go_at_call 26; refine Calls.quiet_of_same (hri _)))
        go_wp2
        go_ret
        exact ⟨ret_one (congrArg Value.bool HF.out.symm), bel_drewN HB.out nq⟩
      | true =>
        simp only [hr] at hri
        by_cases hn0 : xn < 1
        · have HF := hide (hbad (hno (show xn ≤ 0 by omega)))
          clear hprev hr hbad hnm hno hze hmo hwf hbk
          go_wp2_with fail
          go_quiet (first | (go_at_call 26; refine Calls.quiet_of_same (hri _)))
          go_wp2
          go_ret
          exact ⟨ret_one (congrArg Value.bool HF.out.symm), bel_drewN HB.out nq⟩
        · have hn1 : 0 < xn := by omega
          have hn2 : decide (xn < 1) = false := by simpa using hn0
          by_cases hk0 : k = 0
          · have HN1 : Hid (SoFar l 1) := by have := hide (HN.out.more (hze hk0 hr hn1)); rwa [hk0] at this
            subst hk0
            have hix0 : ∀ w', (Instr.indexAt 22 v (.int .i64 0)).run Try.prog w' = .ok (.pointer (some ⟨b, o, none⟩)) w' := hix
            clear hprev hr hbad hnm hno hze hmo hwf hbk hn0 hix
            go_wp2_with fail
            go_quiet (first | (go_at_call 26; refine Calls.quiet_of_same (hri _)))
            go_wp2
            exact ⟨⟨1, by omega, by go_num, HN1, bel_drewN HB.out nq⟩, by simp [intOf]; omega⟩
          · obtain ⟨b', o', hbs', hix', p0, p1⟩ := hprev (by omega)
            have hst := hmo hr hn1 hk0
            generalize l.getD (k - 1) default = p at *
            obtain ⟨ps, pn⟩ := p
            simp only at p0 p1 hst
            rw [show ((k - 1 : Nat) : Int) = (k : Int) - 1 from by omega] at hix'
            have hk1 : (0 : Int) < k := by omega
            have dk1 : decide (0 < k) = true := by simp; omega
            have hwk : IntKind.i64.wrap ((k : Int) - 1) = (k : Int) - 1 := by rw [IntKind.wrap_i64]; omega
            have hq := leq_bl xs ps
            have HBAD := hide hbad
            have HST := hide hst
            clear hprev hr hbad hnm hno hze hmo hwf hbk hst hn0
            generalize hd : decide (bl ps < bl xs) = d at *
            have HD := hide hd
            clear hd
            go_wp2_with fail
            go_quiet (first | (go_at_call 26; refine Calls.quiet_of_same (hri _)))
            cases d with
            | false =>
              have HF := hide (HBAD.out HST.out)
              go_wp2
              go_ret
              exact ⟨ret_one (congrArg Value.bool HF.out.symm), bel_drewN HB.out nq⟩
            | true =>
              have HN1 := hide (HN.out.more HST.out)
              go_wp2
              exact ⟨⟨k + 1, by omega, by go_num, HN1, bel_drewN HB.out nq⟩, by simp [intOf]; omega⟩
    · obtain rfl : k = len := by omega
      have HD : Hid (rightE l = decide ((k : Int) ≤ 100)) := by
        refine hide ?_
        by_cases h1 : k ≤ 100
        · rw [decide_eq_true (show (k : Int) ≤ 100 by omega)]
          exact rightE_iff.2 ⟨by rw [HL.out]; omega, by rw [HL.out]; exact HN.out⟩
        · rw [decide_eq_false (show ¬ (k : Int) ≤ 100 by omega)]
          exact rightE_long (by rw [HL.out]; omega)
      go_wp2
      go_ret
      exact ⟨ret_one (congrArg Value.bool HD.out.symm), HB.out⟩
end Go.Proofs.Ytlfodhffecadoaa
