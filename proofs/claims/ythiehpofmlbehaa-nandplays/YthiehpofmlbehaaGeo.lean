/-
  Geometries: which are right; those that the laws draw.
-/
import Derived.Test.YthiehpofmlbehaaNorP
import Derived.BigQuiet
import Derived.Deep.QuietTactic
import Derived.Deep.RegionHeld3
import Derived.StillTailTactics
namespace Go.Proofs.Ythiehpofmlbehaa
open Go.RowKit
set_option linter.unusedVariables false

theorem within_any (w : World) (n l m : Int) : Calls Try.prog 51 #[.int .i64 n, .int .i64 l, .int .i64 m] w fun e w' => e = .returned (.bool (decide (l ≤ n ∧ n ≤ m))) ∧ w' = w := by
  by_cases h : l ≤ n
  · go_enter Try.func51, Try.ntmps51
    go_wp2
    go_ret
    exact ⟨ret_one (congrArg Value.bool (by simp [h])), rfl⟩
  · go_enter Try.func51, Try.ntmps51
    go_wp2
    go_ret
    exact ⟨ret_one (congrArg Value.bool (by simp; omega)), rfl⟩

def gcells (a b c d e : Int) : Array Value := #[.int .i64 a, .int .i64 b, .int .i64 c, .int .i64 d, .int .i64 e]
def rightS (a b c d e : Int) : Bool := decide (a % 2 = 0) && (decide (2 ≤ a ∧ a ≤ 16) && (decide (256 ≤ b ∧ b ≤ 4096) && (decide (4 ≤ c ∧ c ≤ 64) && (decide (2 ≤ d ∧ d ≤ 32) && decide (16 ≤ e ∧ e ≤ 256)))))

theorem Right_any (w : World) (a b c d e : Int) (ha : (Lit.int .i64 a).wf = true) : Calls Try.prog 34 #[.agg (gcells a b c d e)] w fun x w' => x = .returned (.bool (rightS a b c d e)) ∧ w' = w.alloc (.cells (gcells a b c d e) 23) := by
  have ha' := of_wf_i64 ha
  have hm : (a.tmod 2 == 0) = decide (a % 2 = 0) := by
    by_cases h : a % 2 = 0
    · have : a.tmod 2 = 0 := by have := Int.tmod_eq_zero_of_dvd (Int.dvd_of_emod_eq_zero h); exact this
      simp [h, this]
    · have : ¬ a.tmod 2 = 0 := fun e => h (Int.emod_eq_zero_of_dvd (Int.dvd_of_tmod_eq_zero e))
      simp [h, this]
  have hw := fun w n l m => within_any w n l m
  unfold rightS gcells
  go_enter Try.func34, Try.ntmps34
  go_wp2_with (go_at_call 51; refine (within_any _ _ _ _).mono ?_; rintro e w1 ⟨rfl, rfl⟩)
  all_goals go_ret
  all_goals exact ⟨ret_one (congrArg Value.bool (by simp [*])), rfl⟩
theorem rightS_of {a b c d e : Int} (h : rightS a b c d e = true) : a % 2 = 0 ∧ (2 ≤ a ∧ a ≤ 16) ∧ (256 ≤ b ∧ b ≤ 4096) ∧ (4 ≤ c ∧ c ≤ 64) ∧ (2 ≤ d ∧ d ≤ 32) ∧ (16 ≤ e ∧ e ≤ 256) := by
  simp only [rightS, Bool.and_eq_true, decide_eq_true_eq] at h
  exact h

theorem still_tail_drew {P : Program} {id : Nat} {Q : Exit → Act → World → Prop} {a : Act} {w : World} {l : List Oper} (n : Nat) (hm : P.follows .mixedOrders = true) (hB : Region.lexTailB .any l.toArray n = true)
    (h : wpStill P l.toArray w.drew (fun a' => wpList P l.toArray Q (l.drop n) a' w.drew) (l.take n) a) : (Code.region id l.toArray true).wp P Q a w := wp_region_still_tail n hm hB h


theorem i64_in (x : Int) (h : -9223372036854775808 ≤ x ∧ x < 9223372036854775808) : IntKind.i64.wrap x = x := by
  rw [IntKind.wrap_i64]; omega
theorem two_new (w : World) (o : Obj) (cs : Array Value) (t : TypeId) : Blk ((w.alloc o).alloc (.cells cs t)) (w.heap.size + 1) cs t := by
  have := Blk.new (w.alloc o) cs t
  simpa using this


theorem mod_any (w : World) (v : Int) (n k : Nat) (hn : 0 < n) (hn2 : n ≤ 1000) (hk : wrap64 ((IntKind.u64.wrap v).tmod (n : Int)) = (k : Int)) : Calls Try.prog 32 #[.int .i64 v, .int .i64 n] w fun e w' => e = .returned (.int .i64 k) ∧ w' = w := by
  have h0 : ((n : Int) == 0) = false := by simp; omega
  have h1 : IntKind.u64.wrap (n : Int) = n := by rw [IntKind.wrap_u64]; omega
  go_enter Try.func32, Try.ntmps32
  go_wp2
  go_ret
  exact ⟨ret_one (by simp [hk]), rfl⟩


theorem RRight_any (w : World) (a b c d e : Int) (ha : (Lit.int .i64 a).wf = true) : Calls Try.prog 35 #[.agg (gcells a b c d e)] w fun x w' => x = .returned (.bool (rightS a b c d e)) ∧ w' = w.alloc (.cells (gcells a b c d e) 23) := by
  have ha' := of_wf_i64 ha
  have hm : (a.tmod 2 == 0) = decide (a % 2 = 0) := by
    by_cases h : a % 2 = 0
    · have : a.tmod 2 = 0 := by have := Int.tmod_eq_zero_of_dvd (Int.dvd_of_emod_eq_zero h); exact this
      simp [h, this]
    · have : ¬ a.tmod 2 = 0 := fun e => h (Int.emod_eq_zero_of_dvd (Int.dvd_of_tmod_eq_zero e))
      simp [h, this]
  unfold gcells
  go_enter Try.func35, Try.ntmps35
  go_wp2
  all_goals go_ret
  all_goals exact ⟨ret_one (congrArg Value.bool (by rw [Bool.eq_iff_iff]; simp [rightS]; omega)), rfl⟩


set_option maxRecDepth 100000 in
set_option maxHeartbeats 2000000 in
theorem playN_any (w : World) (a b c d e : Int) :
    Calls Try.prog 4 #[.agg (gcells a b c d e)] w fun x w' => ∃ (A B C D E : Nat), x = .returned (.agg (gcells A B C D E)) ∧ rightS A B C D E = true ∧ (C ≤ 8 ∧ D ≤ 6 ∧ E ≤ 36 ∧ (e = 0 → E = 16)) ∧ Below w.heap.size w w' := by
  obtain ⟨k0, l0, q0⟩ := cut_n a 3 (by omega) (by omega)
  obtain ⟨k1, l1, q1⟩ := cut_n b 12 (by omega) (by omega)
  obtain ⟨k2, l2, q2⟩ := cut_n c 5 (by omega) (by omega)
  obtain ⟨k3, l3, q3⟩ := cut_n d 5 (by omega) (by omega)
  obtain ⟨k4, l4, q4⟩ := cut_n e 6 (by omega) (by omega)
  have p0 := fun w => mod_any w a 3 k0 (by omega) (by omega) q0
  have p1 := fun w => mod_any w b 12 k1 (by omega) (by omega) q1
  have p2 := fun w => mod_any w c 5 k2 (by omega) (by omega) q2
  have p3 := fun w => mod_any w d 5 k3 (by omega) (by omega) q3
  have p4 := fun w => mod_any w e 6 k4 (by omega) (by omega) q4
  rw [show ((3 : Nat) : Int) = 3 from rfl] at p0
  rw [show ((12 : Nat) : Int) = 12 from rfl] at p1
  rw [show ((5 : Nat) : Int) = 5 from rfl] at p2 p3
  rw [show ((6 : Nat) : Int) = 6 from rfl] at p4
  have HE : Hid (e = 0 → 16 + 4 * k4 = 16) := by
    intro h0
    subst h0
    rw [show wrap64 ((IntKind.u64.wrap 0).tmod ((6 : Nat) : Int)) = 0 from by rw [IntKind.wrap_u64, show ((0 : Int) % 18446744073709551616).tmod ((6 : Nat) : Int) = 0 from by decide]; exact IntWalk.wrap64_in _ (by decide)] at q4
    omega
  clear q0 q1 q2 q3 q4
  have hr : rightS ((2 + 2 * k0 : Nat) : Int) ((256 + 64 * k1 : Nat) : Int) ((4 + k2 : Nat) : Int) ((2 + k3 : Nat) : Int) ((16 + 4 * k4 : Nat) : Int) = true := by
    simp only [rightS, Bool.and_eq_true, decide_eq_true_eq]
    omega
  have HR := hide hr
  clear hr
  unfold gcells
  go_enter Try.func4, Try.ntmps4
  go_wp2_with fail
  refine still_tail_drew 24 (by kernel_rfl) (by kernel_rfl) ?_
  simp only [List.take_succ_cons, List.take_zero, List.drop_succ_cons, List.drop_zero]
  repeat still_step
  still_call (p0 _)
  repeat still_step
  still_call (p1 _)
  repeat still_step
  still_call (p2 _)
  repeat still_step
  still_call (p3 _)
  repeat still_step
  still_call (p4 _)
  repeat still_step
  refine wpStill_nil ?_
  go_wp2
  have e0 : IntKind.i64.wrap (2 + IntKind.i64.wrap (2 * (k0 : Int))) = ((2 + 2 * k0 : Nat) : Int) := by rw [i64_in (2 * (k0 : Int)) (by omega), i64_in _ (by omega)]; simp
  have e1 : IntKind.i64.wrap (256 + IntKind.i64.wrap (64 * (k1 : Int))) = ((256 + 64 * k1 : Nat) : Int) := by rw [i64_in (64 * (k1 : Int)) (by omega), i64_in _ (by omega)]; simp
  have e2 : IntKind.i64.wrap (4 + (k2 : Int)) = ((4 + k2 : Nat) : Int) := by rw [i64_in _ (by omega)]; simp
  have e3 : IntKind.i64.wrap (2 + (k3 : Int)) = ((2 + k3 : Nat) : Int) := by rw [i64_in _ (by omega)]; simp
  have e4 : IntKind.i64.wrap (16 + IntKind.i64.wrap (4 * (k4 : Int))) = ((16 + 4 * k4 : Nat) : Int) := by rw [i64_in (4 * (k4 : Int)) (by omega), i64_in _ (by omega)]; simp
  rw [e0, e1, e2, e3, e4]
  refine bodyPost_ret (results_cell_row rfl _ _ (w.heap.size + 1) 23 _ (0, 0) _ rfl (by exact two_new _ _ _ _) Try.underlying23 rfl (by kernel_rfl)) rfl ⟨_, _, _, _, _, rfl, HR.out, ⟨by omega, by omega, by omega, HE.out⟩, ?_⟩
  exact (((Below.refl _ _).alloc (Nat.le_refl _) _).alloc (by simp) _).drew
end Go.Proofs.Ythiehpofmlbehaa
