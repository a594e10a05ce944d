/-
  The document's RightRuns.
-/
import Derived.Deep.CutBlock
import Derived.Deep.DeepCutAuto
import Derived.Test.YtlfodhffecadoaaRunsB
namespace Go.Proofs.Ytlfodhffecadoaa
open Go.RowKit
set_option linter.unusedVariables false
set_option maxRecDepth 100000

theorem within_no {f a n : Int} (h : ¬ (1 ≤ n ∧ 0 ≤ f ∧ f ≤ 64 - n ∧ 0 ≤ a ∧ a ≤ 2147483648 - n)) : withinS ⟨f, a, n⟩ = false := by
  unfold withinS
  exact decide_eq_false h
theorem within_yes {f a n : Int} (h : 1 ≤ n ∧ 0 ≤ f ∧ f ≤ 64 - n ∧ 0 ≤ a ∧ a ≤ 2147483648 - n) : withinS ⟨f, a, n⟩ = true := by
  unfold withinS
  exact decide_eq_true h
theorem behind_no {pf pa pn f a n : Int} (h : ¬ (pf + pn ≤ f ∧ ¬ (f = pf + pn ∧ a = pa + pn))) : behindS ⟨pf, pa, pn⟩ ⟨f, a, n⟩ = false := by
  rw [Bool.eq_false_iff]
  exact fun e => h (behind_iff.1 e)

set_option maxHeartbeats 4000000 in
theorem RRightR_any (w : World) (v : Value) (l : List Rn) (h : RRow w v l) : Calls Try.prog 22 #[v] w (SaysB (rightS l) w) := by
  have hlr := h.lenRun
  have hlm := h.len
  unfold maxLen at hlm
  have HR := hide h
  clear h
  obtain ⟨len, hL⟩ : ∃ n, l.length = n := ⟨_, rfl⟩
  have HL := hide hL
  rw [hL] at hlm
  simp only [hL] at hlr
  clear hL
  go_enter Try.func22, Try.ntmps22
  go_wp2
  go_loopw [3] (fun i wr => ∃ k : Nat, k ≤ len ∧ i = .int .i64 k ∧ rightS (l.take k) = true ∧ Below w.heap.size w wr) (fun i _ => len - (intOf i).toNat)
  case atStart => exact ⟨0, Nat.zero_le _, rfl, by simp [rightS, chainS], Below.refl _ _⟩
  case round =>
    obtain ⟨k, hk, rfl, hrt, hbk⟩ := hrel
    by_cases hlt : k < len
    · have hlt' : (k : Int) < len := by omega
      have hkl : k < l.length := by rw [HL.out]; exact hlt
      obtain ⟨b, o, hbs, hix, c0, c1, c2⟩ := (HR.out.below hbk).idx k hkl
      have hmore := right_more hkl hrt
      have hwf := HR.out.2 _ (getD_mem hkl)
      have hprev : 0 < k → withinS (l.getD (k - 1) default) = true := fun h0 => within_at hrt (by omega) (by omega)
      have hix2 := fun (h0 : 0 < k) => (HR.out.below hbk).idx (k - 1) (by omega)
      generalize hr : l.getD k default = r at *
      obtain ⟨f, a, n⟩ := r
      simp only at c0 c1 c2
      obtain ⟨wf, wa, wn⟩ := hwf
      have wf := of_wf64 wf
      have wa := of_wf64 wa
      have wn := of_wf64 wn
      simp only at wf wa wn
      have HM := hide hmore
      have HT := hide hrt
      have hBl := Blk.new wr #[.int .i64 f, .int .i64 a, .int .i64 n] 40
      have HB1 := hide (hbk.alloc hbk.size (.cells #[.int .i64 f, .int .i64 a, .int .i64 n] 40))
      have HIX := hide (fun h0 => hix2 h0)
      have HPV := hide hprev
      have HKA := hide (kl_alloc wr (.cells #[.int .i64 f, .int .i64 a, .int .i64 n] 40))
      clear hmore hrt hr hix2 hprev hbk
      go_upto_region 5 with fail
      have e0 : (wr.alloc (.cells #[.int .i64 f, .int .i64 a, .int .i64 n] 40)).cell? ⟨wr.heap.size, 0, none⟩ = some (.int .i64 f) := hBl.cell 0
      have e1 : (wr.alloc (.cells #[.int .i64 f, .int .i64 a, .int .i64 n] 40)).cell? ⟨wr.heap.size, 1, none⟩ = some (.int .i64 a) := hBl.cell 1
      have e2 : (wr.alloc (.cells #[.int .i64 f, .int .i64 a, .int .i64 n] 40)).cell? ⟨wr.heap.size, 2, none⟩ = some (.int .i64 n) := hBl.cell 2
      have HBL := hide hBl
      clear hBl hix c0 c1 c2 hbs
      generalize wr.alloc (.cells #[.int .i64 f, .int .i64 a, .int .i64 n] 40) = W at *
      go_cut [49] (fun s wx => s = .bool (!withinS ⟨f, a, n⟩) ∧ wx = W)
      case first =>
        generalize wr.heap.size = c at *
        by_cases g1 : f < 0
        · have HF := hide (within_no (f := f) (a := a) (n := n) (by omega))
          go_wp2
          go_meet
          exact ⟨by rw [HF.out]; rfl, rfl⟩
        · have g1' : 0 ≤ f := by omega
          clear g1
          by_cases g2 : n < 1
          · have HF := hide (within_no (f := f) (a := a) (n := n) (by omega))
            go_wp2
            go_meet
            exact ⟨by rw [HF.out]; rfl, rfl⟩
          · have g2' : 1 ≤ n := by omega
            clear g2
            by_cases g3 : 64 < f
            · have HF := hide (within_no (f := f) (a := a) (n := n) (by omega))
              go_wp2
              go_meet
              exact ⟨by rw [HF.out]; rfl, rfl⟩
            · have g3' : f ≤ 64 := by omega
              clear g3
              by_cases g4 : 64 - f < n
              · have HF := hide (within_no (f := f) (a := a) (n := n) (by omega))
                go_wp2
                go_meet
                exact ⟨by rw [HF.out]; rfl, rfl⟩
              · have g4' : n ≤ 64 - f := by omega
                clear g4
                by_cases g5 : a < 0
                · have HF := hide (within_no (f := f) (a := a) (n := n) (by omega))
                  go_wp2
                  go_meet
                  exact ⟨by rw [HF.out]; rfl, rfl⟩
                · have g5' : 0 ≤ a := by omega
                  clear g5
                  by_cases g6 : 2147483648 - n < a
                  · have HF := hide (within_no (f := f) (a := a) (n := n) (by omega))
                    go_wp2
                    go_meet
                    exact ⟨by rw [HF.out]; rfl, rfl⟩
                  · have g6' : a ≤ 2147483648 - n := by omega
                    clear g6
                    have HF := hide (within_yes (f := f) (a := a) (n := n) (by omega))
                    go_wp2
                    go_meet
                    exact ⟨by rw [HF.out]; exact congrArg Value.bool (by simp; omega), rfl⟩
      case rest =>
        obtain ⟨hc, rfl⟩ := hcut
        cases hw : withinS ⟨f, a, n⟩ with
        | false =>
          rw [hw] at hc
          subst hc
          have HF := hide (right_false (k + 1) (HM.out.trans (by rw [hw]; rfl)))
          clear e0 e1 e2 hw
          go_wp2
          go_ret
          exact ⟨ret_one (congrArg Value.bool HF.out.symm), HB1.out⟩
        | true =>
          rw [hw] at hc
          subst hc
          rw [hw, Bool.true_and] at HM
          have hwi := within_iff.1 hw
          simp only at hwi
          clear hw wf wa wn
          by_cases hk0 : k = 0
          · subst hk0
            rw [if_pos rfl] at HM
            clear e0 e1 e2 hwi
            go_wp2
            exact ⟨⟨1, by omega, by go_num, HM.out, HB1.out⟩, by simp [intOf]; omega⟩
          · obtain ⟨b', o', hbs', hix', p0, p1, p2⟩ := HIX.out (by omega)
            have hpw := HPV.out (by omega)
            generalize hp : l.getD (k - 1) default = p at *
            obtain ⟨pf, pa, pn⟩ := p
            simp only at p0 p1 p2
            have hpi := within_iff.1 hpw
            simp only at hpi
            rw [show ((k - 1 : Nat) : Int) = (k : Int) - 1 from by omega] at hix'
            have hk1 : (0 : Int) < k := by omega
            have q0 := kl_cell HKA.out p0
            have q1 := kl_cell HKA.out p1
            have q2 := kl_cell HKA.out p2
            rw [if_neg (show ¬ k = 0 from hk0)] at HM
            have hPl := Blk.new wc #[.int .i64 pf, .int .i64 pa, .int .i64 pn] 40
            have hA := kl_alloc wc (.cells #[.int .i64 pf, .int .i64 pa, .int .i64 pn] 40)
            have HB2 := hide (HB1.out.alloc HB1.out.size (.cells #[.int .i64 pf, .int .i64 pa, .int .i64 pn] 40))
            have HE0 := hide (kl_cell hA e0)
            have HE1 := hide (kl_cell hA e1)
            clear HIX HPV hpw hp p0 p1 p2 hA HKA e0 e1 e2
            go_upto_region 9 with fail
            have e0 := HE0.out
            have e1 := HE1.out
            have r0 : (wc.alloc (.cells #[.int .i64 pf, .int .i64 pa, .int .i64 pn] 40)).cell? ⟨wc.heap.size, 0, none⟩ = some (.int .i64 pf) := hPl.cell 0
            have r1 : (wc.alloc (.cells #[.int .i64 pf, .int .i64 pa, .int .i64 pn] 40)).cell? ⟨wc.heap.size, 1, none⟩ = some (.int .i64 pa) := hPl.cell 1
            have r2 : (wc.alloc (.cells #[.int .i64 pf, .int .i64 pa, .int .i64 pn] 40)).cell? ⟨wc.heap.size, 2, none⟩ = some (.int .i64 pn) := hPl.cell 2
            clear hPl q0 q1 q2 hix' HE0 HE1
            generalize wc.alloc (.cells #[.int .i64 pf, .int .i64 pa, .int .i64 pn] 40) = V at *
            generalize wc.heap.size = d at *
            generalize wr.heap.size = c at *
            have HBH : Hid (behindS ⟨pf, pa, pn⟩ ⟨f, a, n⟩ = (decide (pf + pn ≤ f) && !decide (f = pf + pn ∧ a = pa + pn))) := hide rfl
            by_cases t1 : f < pf + pn
            · have HF := hide (right_false (k + 1) (HM.out.trans (behind_no (by omega))))
              go_wp2
              go_ret
              exact ⟨ret_one (congrArg Value.bool HF.out.symm), HB2.out⟩
            · by_cases t2 : f = pf + pn
              · have t2' : (f == pf + pn) = true := by simpa using t2
                by_cases t3 : a = pa + pn
                · have t3' : (a == pa + pn) = true := by simpa using t3
                  have HF := hide (right_false (k + 1) (HM.out.trans (behind_no (by omega))))
                  have t1' : pf + pn ≤ f := by omega
                  clear t1 t2 t3
                  go_wp2
                  go_ret
                  exact ⟨ret_one (congrArg Value.bool HF.out.symm), HB2.out⟩
                · have t3' : (a == pa + pn) = false := by simpa using t3
                  have HF := hide (HM.out.trans (behind_iff.2 (by simp only; omega)))
                  have t1' : pf + pn ≤ f := by omega
                  clear t1 t2 t3
                  go_wp2
                  exact ⟨⟨k + 1, by omega, by go_num, HF.out, HB2.out⟩, by simp [intOf]; omega⟩
              · have t2' : (f == pf + pn) = false := by simpa using t2
                have HF := hide (HM.out.trans (behind_iff.2 (by simp only; omega)))
                have t1' : pf + pn ≤ f := by omega
                clear t1 t2
                go_wp2
                exact ⟨⟨k + 1, by omega, by go_num, HF.out, HB2.out⟩, by simp [intOf]; omega⟩
    · obtain rfl : k = len := by omega
      have hd : rightS l = true := by rw [List.take_of_length_le (by rw [HL.out]; exact Nat.le_refl _)] at hrt; exact hrt
      have HD := hide hd
      clear hd hrt
      go_wp2
      go_ret
      exact ⟨ret_one (congrArg Value.bool HD.out.symm), hbk⟩
end Go.Proofs.Ytlfodhffecadoaa
