/-
  garretlaw09's awake: true.
-/
import Derived.Test.YtdjpnoolbpnpiaaRunsH
import Derived.Test.YtdjpnoolbpnpiaaRunsI
namespace Go.Proofs.Ytdjpnoolbpnpiaa
open Go.RowKit
set_option linter.unusedVariables false
set_option maxRecDepth 100000

theorem wf_small {n : Int} (h : -1000000000000 ≤ n ∧ n ≤ 1000000000000) : (Lit.int .i64 n).wf = true := wf_i64 (by omega) (by omega)
theorem awk1 : setS [] 0 5 = [⟨0, 5, 1⟩] := by kernel_rfl
theorem awk2 : setS [⟨0, 5, 1⟩] 1 6 = [⟨0, 5, 2⟩] := by kernel_rfl
theorem awk3 : getS [⟨0, 5, 2⟩] 1 = some 6 := by kernel_rfl
theorem awk4 : rightS [⟨0, 5, 2⟩] = true := by kernel_rfl
theorem awk5 : cntS [⟨0, 5, 2⟩] = 2 := by kernel_rfl

set_option maxHeartbeats 2000000 in
theorem awake9_any (w : World) : Calls Try.prog 12 #[] w (SaysB true w) := by
  go_enter Try.func12, Try.ntmps12
  go_wp2_with fail
  refine (Set_any w _ [] 0 5 (RRow.nil w) (wf_small (by omega)) (wf_small (by omega))).mono ?_
  rintro e w1 ⟨u1, rfl, ho1, hb1⟩
  rw [awk1] at ho1
  have HO1 := hide ho1
  clear ho1
  go_wp2_with fail
  refine (Set_any w1 u1 [⟨0, 5, 1⟩] 1 6 HO1.out.row (wf_small (by omega)) (wf_small (by omega))).mono ?_
  rintro e w2 ⟨u2, rfl, ho2, hb2⟩
  rw [awk2] at ho2
  have HR2 := hide ho2.row
  have hB2 : Below w.heap.size w w2 := hb1.trans (hb2.mono hb1.size)
  clear ho2 hb1 hb2
  go_wp2_with fail
  refine (Get_any w2 u2 [⟨0, 5, 2⟩] 1 HR2.out (fun r hr => by simp at hr; subst hr; exact ⟨by simp, by simp, by simp⟩) (by omega)).mono ?_
  rintro e w3 ⟨rfl, hb3⟩
  rw [awk3]
  simp only [Option.getD_some, Option.isSome_some]
  have HR3 := hide (HR2.out.below hb3)
  have hB3 : Below w.heap.size w w3 := hB2.trans (hb3.mono hB2.size)
  have hA := kl_alloc w3 (.cells #[.int .i64 0, .int .i64 5, .int .i64 2] 39)
  have HN := hide (runs_new w3 [⟨0, 5, 2⟩] #[.int .i64 0, .int .i64 5, .int .i64 2] 39 1 rfl rfl (by simp) (fun r hr => by simp at hr; subst hr; exact ⟨wf_small (by simp), wf_small (by simp), wf_small (by simp)⟩))
  have HR4 := hide (HR3.out.below hA)
  have hB4 := kl_step hA hB3
  clear hb3 hA hB3
  go_wp2_with fail
  refine (PlainR_any _ u2 _ [⟨0, 5, 2⟩] [⟨0, 5, 2⟩] HR4.out HN.out).mono ?_
  rintro e w5 ⟨rfl, hb5⟩
  rw [decide_eq_true rfl]
  have HR5 := hide (HR4.out.below hb5)
  have hB5 := kl_step hb5 hB4
  clear hb5 hB4
  go_wp2_with fail
  refine (Count_any _ u2 _ HR5.out).mono ?_
  rintro e w6 ⟨rfl, hb6⟩
  rw [awk4, awk5]
  simp only [if_true]
  have HR6 := hide (HR5.out.below hb6)
  have hB6 := kl_step hb6 hB5
  clear hb6 hB5
  go_wp2_with fail
  refine (Right_any _ u2 _ HR6.out).mono ?_
  rintro e w7 ⟨rfl, hb7⟩
  rw [awk4]
  have hB7 := kl_step hb7 hB6
  go_wp2
  go_ret
  exact ⟨rfl, hB7⟩
end Go.Proofs.Ytdjpnoolbpnpiaa
