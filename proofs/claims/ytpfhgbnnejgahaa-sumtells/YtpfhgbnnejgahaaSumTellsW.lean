/-
  The walk of garretlaw02.SumTells.
-/
import Derived.Test.YtpfhgbnnejgahaaAwake02
import Derived.Test.YtpfhgbnnejgahaaRefSum
import Derived.OpenShut
namespace Go.Proofs.Ytpfhgbnnejgahaa
open Go.RowKit
set_option linter.unusedVariables false

set_option maxHeartbeats 1000000 in
theorem SumTells_walk (bv0 : Value) (xs : List Int) (v : Int) (w : World) (w0 : IRow .u8 w bv0 xs) (w1 : (Lit.int .u32 v).wf = true) :
    Calls Try.prog 3 #[bv0, .int .u32 v] w fun e w' => e = .returned (.bool true) ∧ Below w.heap.size w w' := by
  have hr := w0.bytes
  obtain ⟨ao, cap, hv⟩ := hr.of_len
  by_cases hbig : (3000 : Int) < xs.length
  · subst hv
    generalize xs.length = n at *
    clear w0 hr
    go_enter Try.func3, Try.ntmps3
    go_wp2_with fail
    refine (awake_any _).mono ?_
    rintro e w5 ⟨rfl, hb5⟩
    go_wp2
    go_ret
    exact ⟨rfl, hb5⟩
  · subst hv
    have hlen : (xs.length : Int) ≤ 3000 := by omega
    generalize hn : xs.length = n at *
    clear w0
    go_enter Try.func3, Try.ntmps3
    go_wp2_with fail
    refine (awake_any _).mono ?_
    rintro e w5 ⟨rfl, hb5⟩
    have hr5 := hr.below hb5
    go_wp2_with fail
    refine (Of_any _ _ xs hr5).mono ?_
    rintro e w6 ⟨rfl, rfl⟩
    go_wp2_with fail
    refine (RSum_any _ _ xs hr5).mono ?_
    rintro e w7 ⟨rfl, rfl⟩
    go_wp2_with fail
    refine (Ok_any _ _ xs v hr5).mono ?_
    rintro e w8 ⟨rfl, rfl⟩
    go_wp2_with fail
    refine (RSum_any _ _ xs hr5).mono ?_
    rintro e w9 ⟨rfl, rfl⟩
    go_wp2_with fail
    refine (Of_any _ _ xs hr5).mono ?_
    rintro e w10 ⟨rfl, rfl⟩
    go_wp2_with fail
    refine (Ok_any _ _ xs _ hr5).mono ?_
    rintro e w11 ⟨rfl, rfl⟩
    go_wp2
    go_ret
    refine ⟨?_, hb5⟩
    simp
end Go.Proofs.Ytpfhgbnnejgahaa
