/-
  The contracts of package tag: Of, Write, Read.
-/
import Derived.Test.YtfacmeblldljdaaTagP
import Derived.Deep.QuietTactic
import Derived.BigQuiet
namespace Go.Proofs.Ytfacmeblldljdaa
open Go.RowKit
set_option linter.unusedVariables false

theorem inNum_yes {v : Int} (h0 : 0 ≤ v) (h1 : v ≤ 2147483647) : inNum v = true := by simp [inNum, h0, h1]
theorem inNum_neg {v : Int} (h : ¬ 0 ≤ v) : inNum v = false := by simp [inNum, h]
theorem inNum_big {v : Int} (h : ¬ v ≤ 2147483647) : inNum v = false := by simp [inNum, h]
theorem inNum_in {v : Int} (h : inNum v = true) : 0 ≤ v ∧ v ≤ 2147483647 := by simpa [inNum] using h

theorem isNumber_any (w : World) (v : Int) : Calls Try.prog 16 #[.int .i64 v] w fun e w' => e = .returned (.bool (inNum v)) ∧ w' = w := by
  by_cases h0 : 0 ≤ v
  · by_cases h1 : v ≤ 2147483647
    · rw [inNum_yes h0 h1]
      go_enter Try.func16, Try.ntmps16
      go_wp2
      go_ret
      exact ⟨rfl, rfl⟩
    · rw [inNum_big h1]
      go_enter Try.func16, Try.ntmps16
      go_wp2
      go_ret
      exact ⟨rfl, rfl⟩
  · rw [inNum_neg h0]
    go_enter Try.func16, Try.ntmps16
    go_wp2
    go_ret
    exact ⟨rfl, rfl⟩

theorem putField_any (w : World) (b : Value) (xs : List Int) (v : Int) (h : Row w b xs) (hn : xs.length ≤ 140737488355320) (hv : 0 ≤ v ∧ v < 4294967296) :
    Calls Try.prog 17 #[b, .int .u32 v] w (Made w (xs ++ low v 4)) := by
  have HE := hide (show IntKind.u64.wrap v = v by rw [IntKind.wrap_u64]; omega)
  go_enter Try.func17, Try.ntmps17
  go_wp2_with fail
  refine (Put_any w b xs v 4 h hn hv.1 (by omega)).mono ?_
  rintro e w1 ⟨u, rfl, ho, hb⟩
  go_wp2
  go_ret
  exact ⟨u, rfl, ho, hb⟩

theorem field_any (w : World) (b : Value) (xs : List Int) (i : Nat) (h : Row w b xs) (hi : i ≤ 3) :
    Calls Try.prog 22 #[b, .int .i64 i] w fun e w' => e = .returned (.int .u32 (getS xs (4 * i) 4).1) ∧ w' = w := by
  have hr := getS4_range h.bys (4 * i)
  have hg := Get_any w b xs (4 * i) 4 h (wf_i64 (by omega) (by omega)) (by decide)
  rw [show (4 * (i : Int)) = (i : Int) * 4 from by omega] at *
  generalize (getS xs (i * 4) 4).1 = v at *
  generalize (getS xs (i * 4) 4).2 = er at *
  have HG := hide hg
  clear hg h
  go_enter Try.func22, Try.ntmps22
  go_wp2_with fail
  refine Calls.mono HG.out ?_
  rintro e w1 ⟨rfl, rfl⟩
  go_wp2
  go_ret
  exact ⟨rfl, rfl⟩

theorem TOf_any (w : World) (b : Value) (xs : List Int) (n i : Int) (h : Row w b xs) :
    Calls Try.prog 12 #[.int .i64 n, .int .i64 i, b] w fun e w' => e = .returned (.agg (tcells n i (sumS xs))) ∧ Below w.heap.size w w' := by
  unfold tcells
  go_enter Try.func12, Try.ntmps12
  go_wp2_with fail
  refine (Of_any _ b xs (h.below ((Below.refl _ _).alloc (Nat.le_refl _) _))).mono ?_
  rintro e w1 ⟨rfl, rfl⟩
  go_wp2
  refine bodyPost_ret (results_cell_row rfl _ _ w.heap.size 25 _ (0, 0) _ rfl (Blk.new w _ _) Try.underlying25 rfl (by kernel_rfl)) rfl ⟨rfl, ?_⟩
  exact (Below.refl _ _).alloc (Nat.le_refl _) _
end Go.Proofs.Ytfacmeblldljdaa
