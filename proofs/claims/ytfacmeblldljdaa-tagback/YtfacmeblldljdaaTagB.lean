/-
  The contracts of package tag: Write.
-/
import Derived.Test.YtfacmeblldljdaaTagA
namespace Go.Proofs.Ytfacmeblldljdaa
open Go.RowKit
set_option linter.unusedVariables false

/-- Bytes, and an error. -/
def Wrote (w : World) (r : List Int × Int) (e : Ending) (w' : World) : Prop := ∃ u, e = .returned (.tuple #[u, .int .i64 r.2]) ∧ Own w.heap.size w' u r.1 ∧ Below w.heap.size w w'

set_option maxHeartbeats 1000000 in
theorem Write_any (w : World) (a b s : Int) (hs : 0 ≤ s ∧ s < 4294967296) :
    Calls Try.prog 8 #[.agg (tcells a b s)] w (Wrote w (writeS a b s)) := by
  unfold tcells
  by_cases ha : inNum a = true
  · by_cases hb : inNum b = true
    · have e : writeS a b s = (tagW a b s, 0) := by simp [writeS, ha, hb]
      rw [e]
      have har := inNum_in ha
      have hbr := inNum_in hb
      have HA := hide ha
      have HB := hide hb
      have i0 : ∀ w : World, (Instr.index 41 (.agg #[.int .u32 a, .int .u32 b, .int .u32 s]) (.int .i64 0)).run Try.prog w = .ok (.int .u32 a) w := fun _ => by kernel_rfl
      have i1 : ∀ w : World, (Instr.index 41 (.agg #[.int .u32 a, .int .u32 b, .int .u32 s]) (.int .i64 1)).run Try.prog w = .ok (.int .u32 b) w := fun _ => by kernel_rfl
      have i2 : ∀ w : World, (Instr.index 41 (.agg #[.int .u32 a, .int .u32 b, .int .u32 s]) (.int .i64 2)).run Try.prog w = .ok (.int .u32 s) w := fun _ => by kernel_rfl
      clear e ha hb
      go_enter Try.func8, Try.ntmps8
      go_wp2_with fail
      refine (isNumber_any _ a).mono ?_
      rintro e w1 ⟨rfl, rfl⟩
      rw [HA.out]
      go_wp2_with fail
      refine (isNumber_any _ b).mono ?_
      rintro e w1 ⟨rfl, rfl⟩
      rw [HB.out]
      have hb0 : Below w.heap.size w (w.alloc (.cells #[.int .i64 a, .int .i64 b, .int .u32 s] 25)) := (Below.refl _ _).alloc (Nat.le_refl _) _
      go_wp2
      generalize w.alloc (.cells #[.int .i64 a, .int .i64 b, .int .u32 s] 25) = wa at *
      refine wp_loop_rounds 4 ?_
      rw [rounds_succ]
      go_wp2_with fail
      refine (putField_any wa _ [] a (Row.nil _) (by simp) (by omega)).mono ?_
      rintro e w1 ⟨u1, rfl, ho1, hb1⟩
      rw [List.nil_append] at ho1
      go_wp2_with fail
      rw [rounds_succ]
      go_wp2_with fail
      refine (putField_any w1 u1 _ b ho1.row (by simp [low_length]) (by omega)).mono ?_
      rintro e w2 ⟨u2, rfl, ho2, hb2⟩
      go_wp2_with fail
      rw [rounds_succ]
      go_wp2_with fail
      refine (putField_any w2 u2 _ s ho2.row (by simp [low_length]) hs).mono ?_
      rintro e w3 ⟨u3, rfl, ho3, hb3⟩
      have hB3 : Below w.heap.size w w3 := ((hb0.trans (hb1.mono hb0.size)).trans (hb2.mono (Nat.le_trans hb0.size hb1.size))).trans (hb3.mono (Nat.le_trans hb0.size (Nat.le_trans hb1.size hb2.size)))
      go_wp2_with fail
      rw [rounds_succ]
      go_wp2_with fail
      refine (Of_any w3 u3 (tag12 a b s) ho3.row).mono ?_
      rintro e w4 ⟨rfl, rfl⟩
      go_wp2_with fail
      refine (putField_any w4 u3 (tag12 a b s) (sumS (tag12 a b s)) ho3.row (by rw [tag12_length]; omega) (sumS_range _)).mono ?_
      rintro e w5 ⟨u5, rfl, ho5, hb5⟩
      go_wp2
      go_ret2
      exact ⟨u5, rfl, ho5.mono hB3.size, hB3.trans (hb5.mono hB3.size)⟩
    · have e : writeS a b s = ([], 1) := by simp [writeS, ha, hb]
      rw [e]
      have HA := hide ha
      have HB := hide (show inNum b = false by simpa using hb)
      clear e ha hb
      go_enter Try.func8, Try.ntmps8
      go_wp2_with fail
      refine (isNumber_any _ a).mono ?_
      rintro e w1 ⟨rfl, rfl⟩
      rw [HA.out]
      go_wp2_with fail
      refine (isNumber_any _ b).mono ?_
      rintro e w1 ⟨rfl, rfl⟩
      rw [HB.out]
      go_wp2
      go_ret2
      exact ⟨_, rfl, Own.nil _ _, (Below.refl _ _).alloc (Nat.le_refl _) _⟩
  · have e : writeS a b s = ([], 1) := by simp [writeS, ha]
    rw [e]
    have HA := hide (show inNum a = false by simpa using ha)
    clear e ha
    go_enter Try.func8, Try.ntmps8
    go_wp2_with fail
    refine (isNumber_any _ a).mono ?_
    rintro e w1 ⟨rfl, rfl⟩
    rw [HA.out]
    go_wp2
    go_ret2
    exact ⟨_, rfl, Own.nil _ _, (Below.refl _ _).alloc (Nat.le_refl _) _⟩
end Go.Proofs.Ytfacmeblldljdaa
