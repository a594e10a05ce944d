/-
  The contracts of package runs: Set, Cut.
-/
import Derived.Test.YtdjpnoolbpnpiaaRunsG
namespace Go.Proofs.Ytdjpnoolbpnpiaa
open Go.RowKit
set_option linter.unusedVariables false
set_option maxRecDepth 100000

set_option maxHeartbeats 2000000 in
theorem Set_any (w : World) (v : Value) (l : List Rn) (i a : Int) (h : RRow w v l) (hi : (Lit.int .i64 i).wf = true) (ha : (Lit.int .i64 a).wf = true) :
    Calls Try.prog 7 #[v, .int .i64 i, .int .i64 a] w fun e w' => ∃ u, e = .returned u ∧ ROwn w.heap.size w' u (setS l i a) ∧ Below w.heap.size w w' := by
  have hri := Right_any w v l h
  have HR := hide h
  clear h
  cases hr : rightS l with
  | false =>
    rw [hr] at hri
    have HE := hide (show setS l i a = [] by unfold setS; rw [hr]; rfl)
    clear hr
    go_enter Try.func7, Try.ntmps7
    go_wp2_with fail
    refine hri.mono ?_
    rintro e w1 ⟨rfl, hb1⟩
    go_wp2
    go_ret
    exact ⟨_, rfl, by rw [HE.out]; exact ROwn.nil _ _, hb1⟩
  | true =>
    rw [hr] at hri
    have hwi := fun w => isWithin_any w i a 1 ⟨hi, ha, wf_i64 (by simp) (by simp)⟩
    have HRT := hide hr
    cases hw : withinS ⟨i, a, 1⟩ with
    | false =>
      rw [hw] at hwi
      have HE := hide (show setS l i a = l by unfold setS; rw [hr, hw]; rfl)
      clear hr hw
      go_enter Try.func7, Try.ntmps7
      go_wp2_with fail
      refine hri.mono ?_
      rintro e w1 ⟨rfl, hb1⟩
      go_wp2_with fail
      refine (hwi _).mono ?_
      rintro e w2 ⟨rfl, hb2⟩
      have hB2 : Below w.heap.size w w2 := hb1.trans (hb2.mono hb1.size)
      clear hb1 hb2
      go_wp2_with fail
      refine (CloneR_any w2 v l (HR.out.below hB2) (by have := len_bound HRT.out; omega)).mono ?_
      rintro e w3 ⟨u, rfl, ho3, hb3⟩
      have HO := hide (ho3.mono hB2.size)
      have hB3 : Below w.heap.size w w3 := hB2.trans (hb3.mono hB2.size)
      clear ho3 hb3 hB2
      go_wp2
      go_ret
      exact ⟨_, rfl, by rw [HE.out]; exact HO.out, hB3⟩
    | true =>
      rw [hw] at hwi
      have hwp := within_iff.1 hw
      simp only at hwp
      obtain ⟨I, rfl⟩ : ∃ I : Nat, i = (I : Int) := ⟨i.toNat, by omega⟩
      have HF := hide (fair_upd (fair_tab HRT.out) (i := (I : Int)) (a := a) (by omega))
      have HE := hide (show setS l I a = layS (updF (tabS l) I a) 64 by unfold setS; rw [hr, hw]; rfl)
      clear hr hw
      go_enter Try.func7, Try.ntmps7
      go_wp2_with fail
      refine hri.mono ?_
      rintro e w1 ⟨rfl, hb1⟩
      go_wp2_with fail
      refine (hwi _).mono ?_
      rintro e w2 ⟨rfl, hb2⟩
      have hB2 : Below w.heap.size w w2 := hb1.trans (hb2.mono hb1.size)
      clear hb1 hb2
      go_wp2_with fail
      refine (gather_any w2 v l (HR.out.below hB2) HRT.out).mono ?_
      rintro e w3 ⟨rfl, ht3, hb3⟩
      have hB3 : Below w.heap.size w w3 := hB2.trans (hb3.mono hB2.size)
      obtain ⟨w4, hrun, ht4, hg4⟩ := ht3.put (by omega) (I : Int) I rfl (by omega) a
      have hB4 : Below w.heap.size w w4 := hB3.grown hg4 hB3.size (fun k e => by cases e; exact hB2.size)
      have HT := hide ht4
      clear ht3 ht4 hb3 hg4 hB3
      go_wp2_with fail
      refine (lay_any w4 _ _ _ HT.out HF.out).mono ?_
      rintro e w5 ⟨u, rfl, ho5, hb5⟩
      have HO := hide (ho5.mono hB4.size)
      have hB5 : Below w.heap.size w w5 := hB4.trans (hb5.mono hB4.size)
      clear ho5 hb5 hB4
      go_wp2
      go_ret
      exact ⟨_, rfl, by rw [HE.out]; exact HO.out, hB5⟩

set_option maxHeartbeats 2000000 in
theorem Cut9_any (w : World) (v : Value) (l : List Rn) (q : Int) (h : RRow w v l) :
    Calls Try.prog 6 #[v, .int .i64 q] w fun e w' => ∃ u, e = .returned u ∧ ROwn w.heap.size w' u (cutS l q) ∧ Below w.heap.size w w' := by
  have hA : Below w.heap.size w (w.alloc (.cells #[.int .i64 q] 3)) := (Below.refl _ _).alloc (Nat.le_refl _) _
  have hri := Right_any _ v l (h.below hA)
  have HR := hide h
  clear h
  have hBl := Blk.new w #[.int .i64 q] 3
  have HC := hide (show (w.alloc (.cells #[.int .i64 q] 3)).cell? ⟨w.heap.size, 0, none⟩ = some (.int .i64 q) from hBl.cell 0)
  clear hBl
  cases hr : rightS l with
  | false =>
    rw [hr] at hri
    have HE := hide (show cutS l q = [] by unfold cutS; rw [hr]; rfl)
    clear hr
    go_enter Try.func6, Try.ntmps6
    go_wp2_with fail
    refine hri.mono ?_
    rintro e w1 ⟨rfl, hb1⟩
    have hB1 : Below w.heap.size w w1 := kl_step hb1 hA
    clear hb1 hA
    go_wp2
    go_ret
    exact ⟨_, rfl, by rw [HE.out]; exact ROwn.nil _ _, hB1⟩
  | true =>
    rw [hr] at hri
    have HRT := hide hr
    have HF := hide (fair_cut (fair_tab HRT.out) q)
    have HE := hide (show cutS l q = layS (cutF (tabS l) q) 64 by unfold cutS; rw [hr]; rfl)
    clear hr
    go_enter Try.func6, Try.ntmps6
    go_wp2_with fail
    refine hri.mono ?_
    rintro e w1 ⟨rfl, hb1⟩
    have hB1 : Below w.heap.size w w1 := kl_step hb1 hA
    have HC1 := hide (kl_cell hb1 HC.out)
    clear hb1 hA
    go_wp2_with fail
    refine (gather_any w1 v l (HR.out.below hB1) HRT.out).mono ?_
    rintro e w2 ⟨rfl, ht2, hb2⟩
    have hB2 : Below w.heap.size w w2 := kl_step hb2 hB1
    have HC2 := hide (kl_cell hb2 HC1.out)
    have HT2 := hide ht2
    have hlt := World.block_lt_of_cell? w1 _ HC1.out
    have hlt' : w.heap.size < w1.heap.size := hlt
    have hs1 := hB1.size
    clear ht2 hb2 hlt
    go_wp2_with fail
    refine (DelFunc_any w2 _ _ _ q _ HT2.out HC2.out (by omega)).mono ?_
    rintro e w3 ⟨rfl, ht3, hg3⟩
    have hB3 : Below w.heap.size w w3 := hB2.grown hg3 hB2.size (fun k e => by cases e; exact hs1)
    have HT3 := hide ht3
    clear ht3 hg3 hB2
    go_wp2_with fail
    refine (lay_any w3 _ _ _ HT3.out HF.out).mono ?_
    rintro e w5 ⟨u, rfl, ho5, hb5⟩
    have HO := hide (ho5.mono hB3.size)
    have hB5 : Below w.heap.size w w5 := hB3.trans (hb5.mono hB3.size)
    clear ho5 hb5 hB3
    go_wp2
    go_ret
    exact ⟨_, rfl, by rw [HE.out]; exact HO.out, hB5⟩
end Go.Proofs.Ytdjpnoolbpnpiaa
