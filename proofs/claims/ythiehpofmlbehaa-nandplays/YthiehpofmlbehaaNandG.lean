/-
  A new nand chip.
-/
import Derived.Test.YthiehpofmlbehaaNandF
import Derived.Test.YthiehpofmlbehaaNandC
namespace Go.Proofs.Ythiehpofmlbehaa
open Go.RowKit
set_option linter.unusedVariables false
set_option maxRecDepth 100000

theorem infoInt5 : (Try.prog.info? 3).map (fun i => (i.zero, i.size, i.bytes)) = some (some (.int .i64 0), 1, 8) := by kernel_rfl
theorem made_bytes5 (n : Nat) : madeCells (Value.int .u8 0).cells n = (bv (List.replicate n 0)).toArray := by
  apply Array.ext'
  simp [madeCells, bv, Value.cells]
  apply List.ext_getElem
  · simp
  · intro i h1 h2
    simp [Nat.mod_one]
theorem made_ints5 (n : Nat) : madeCells (Value.int .i64 0).cells n = (iv .i64 (List.replicate n 0)).toArray := by
  apply Array.ext'
  simp [madeCells, iv, Value.cells]
  apply List.ext_getElem
  · simp
  · intro i h1 h2
    simp [Nat.mod_one]
theorem run_make_bytes5 (w : World) (n : Nat) (hn : n ≤ 1000000) : (Instr.makeSlice 43 (.int .i64 n) (.int .i64 n)).run Try.prog w = .ok (.slice (some ⟨w.heap.size, 0, none⟩) n n) (w.alloc (.cells (bv (List.replicate n 0)).toArray 5)) := by
  obtain ⟨i0, hi, hz0, hz1, hz2⟩ := info_parts infoByte
  have := run_makeSlice (P := Try.prog) (w := w) 43 5 i0 (.int .u8 0) Try.underlying43 hi hz0 .i64 .i64 (n : Int) (n : Int) (by omega) (by omega) (by rw [hz1]; simp; omega) (by rw [hz2]; omega) (by omega)
  rw [hz1, made_bytes5] at this
  simpa using this
theorem run_make_ints5 (w : World) (n : Nat) (hn : n ≤ 65536) : (Instr.makeSlice 24 (.int .i64 n) (.int .i64 n)).run Try.prog w = .ok (.slice (some ⟨w.heap.size, 0, none⟩) n n) (w.alloc (.cells (iv .i64 (List.replicate n 0)).toArray 3)) := by
  obtain ⟨i0, hi, hz0, hz1, hz2⟩ := info_parts infoInt5
  have := run_makeSlice (P := Try.prog) (w := w) 24 3 i0 (.int .i64 0) Try.underlying24 hi hz0 .i64 .i64 (n : Int) (n : Int) (by omega) (by omega) (by rw [hz1]; simp; omega) (by rw [hz2]; omega) (by omega)
  rw [hz1, made_ints5] at this
  simpa using this
theorem PgMap.empty {w : World} {b : Nat} (h : w.heap[b]? = some (.map #[] 0)) : PgMap w b 0 (fun _ _ => none) :=
  ⟨.map [], ⟨#[], 0, h, ⟨by simp, Go.MapKept.stamped_empty 0, by simp⟩, Nat.le_refl _, rfl⟩, fun i k _ _ z => rfl⟩

theorem heap_alloc_old (w : World) (o : Obj) {k : Nat} {x : Obj} (h : w.heap[k]? = some x) : (w.alloc o).heap[k]? = some x := by
  have hk : k < w.heap.size := (Array.getElem?_eq_some_iff.1 h).1
  show (w.heap.push o)[k]? = _
  rw [Array.getElem?_push, if_neg (by omega)]
  exact h
theorem heap_alloc_new (w : World) (o : Obj) : (w.alloc o).heap[w.heap.size]? = some o := by
  show (w.heap.push o)[w.heap.size]? = _
  rw [Array.getElem?_push, if_pos rfl]
theorem six (w : World) (o1 o2 o3 o4 o5 o6 : Obj) :
    ((((((w.alloc o1).alloc o2).alloc o3).alloc o4).alloc o5).alloc o6).heap[w.heap.size + 1 + 1]? = some o3 ∧
    ((((((w.alloc o1).alloc o2).alloc o3).alloc o4).alloc o5).alloc o6).heap[w.heap.size + 1 + 1 + 1]? = some o4 ∧
    ((((((w.alloc o1).alloc o2).alloc o3).alloc o4).alloc o5).alloc o6).heap[w.heap.size + 1 + 1 + 1 + 1]? = some o5 ∧
    ((((((w.alloc o1).alloc o2).alloc o3).alloc o4).alloc o5).alloc o6).heap[w.heap.size + 1 + 1 + 1 + 1 + 1]? = some o6 ∧
    Below w.heap.size w ((((((w.alloc o1).alloc o2).alloc o3).alloc o4).alloc o5).alloc o6) := by
  have n3 := heap_alloc_new ((w.alloc o1).alloc o2) o3
  have n4 := heap_alloc_new (((w.alloc o1).alloc o2).alloc o3) o4
  have n5 := heap_alloc_new ((((w.alloc o1).alloc o2).alloc o3).alloc o4) o5
  have n6 := heap_alloc_new (((((w.alloc o1).alloc o2).alloc o3).alloc o4).alloc o5) o6
  simp only [World.size_alloc] at n3 n4 n5 n6
  exact ⟨heap_alloc_old _ _ (heap_alloc_old _ _ (heap_alloc_old _ _ n3)), heap_alloc_old _ _ (heap_alloc_old _ _ n4), heap_alloc_old _ _ n5, n6, ((((((Below.refl _ _).alloc (Nat.le_refl _) _).alloc (by simp) _).alloc (by simp; omega) _).alloc (by simp; omega) _).alloc (by simp; omega) _).alloc (by simp; omega) _⟩

/-- A new chip, of any power. -/
structure MadeD (w w' : World) (k mb nb eb : Nat) (A B : Int) (C D E : Nat) (po : Option Addr) : Prop where
  blk : Blk w' k #[.int .i64 A, .int .i64 B, .int .i64 C, .int .i64 D, .int .i64 E, .pointer po, .map (some mb), .slice (some ⟨nb, 0, none⟩) C C, .slice (some ⟨eb, 0, none⟩) C C] 68
  map : PgMap w' mb 0 (fun _ _ => none)
  nxt : Blk w' nb (iv .i64 (List.replicate C 0)).toArray 3
  ers : Blk w' eb (iv .i64 (List.replicate C 0)).toArray 3
  lo : w.heap.size ≤ k ∧ w.heap.size ≤ mb ∧ w.heap.size ≤ nb ∧ w.heap.size ≤ eb
  ne : k ≠ mb ∧ k ≠ nb ∧ k ≠ eb ∧ mb ≠ nb ∧ mb ≠ eb ∧ nb ≠ eb
  below : Below w.heap.size w w'

set_option maxHeartbeats 2000000 in
theorem NewNand_right (w : World) (A B : Int) (C D E : Nat) (po : Option Addr) (hA : (Lit.int .i64 A).wf = true) (hr : rightS A B C D E = true) :
    Calls Try.prog 8 #[.agg (gcells A B C D E), .pointer po] w fun x w' =>
      ∃ k mb nb eb, x = .returned (.tuple #[.pointer (some ⟨k, 0, none⟩), .int .i64 0]) ∧ MadeD w w' k mb nb eb A B C D E po := by
  have hu := rightS_of hr
  have hri := fun w => Right_any w A B C D E hA
  rw [hr] at hri
  have m2 := fun w => run_make_ints5 w C (by omega)
  have mm := @run_makeMap Try.prog
  unfold gcells at *
  clear hu hr
  go_enter Try.func8, Try.ntmps8
  go_wp2_with fail
  refine (hri _).mono ?_
  rintro e w1 ⟨rfl, rfl⟩
  clear hri
  go_wp2_with fail
  go_region
  all_goals go_wp2
  all_goals go_ret2
  all_goals
    first
      | exact ⟨_, _, _, _, rfl, (six w _ _ _ _ _ _).2.2.2.1, PgMap.empty (six w _ _ _ _ _ _).1, (six w _ _ _ _ _ _).2.1, (six w _ _ _ _ _ _).2.2.1, by omega, by omega, (six w _ _ _ _ _ _).2.2.2.2.drew⟩
      | exact ⟨_, _, _, _, rfl, (six w _ _ _ _ _ _).2.2.2.1, PgMap.empty (six w _ _ _ _ _ _).2.1, (six w _ _ _ _ _ _).1, (six w _ _ _ _ _ _).2.2.1, by omega, by omega, (six w _ _ _ _ _ _).2.2.2.2.drew⟩
      | exact ⟨_, _, _, _, rfl, (six w _ _ _ _ _ _).2.2.2.1, PgMap.empty (six w _ _ _ _ _ _).2.2.1, (six w _ _ _ _ _ _).1, (six w _ _ _ _ _ _).2.1, by omega, by omega, (six w _ _ _ _ _ _).2.2.2.2.drew⟩
      | exact ⟨_, _, _, _, rfl, (six w _ _ _ _ _ _).2.2.2.1, PgMap.empty (six w _ _ _ _ _ _).1, (six w _ _ _ _ _ _).2.2.1, (six w _ _ _ _ _ _).2.1, by omega, by omega, (six w _ _ _ _ _ _).2.2.2.2.drew⟩
      | exact ⟨_, _, _, _, rfl, (six w _ _ _ _ _ _).2.2.2.1, PgMap.empty (six w _ _ _ _ _ _).2.1, (six w _ _ _ _ _ _).2.2.1, (six w _ _ _ _ _ _).1, by omega, by omega, (six w _ _ _ _ _ _).2.2.2.2.drew⟩
      | exact ⟨_, _, _, _, rfl, (six w _ _ _ _ _ _).2.2.2.1, PgMap.empty (six w _ _ _ _ _ _).2.2.1, (six w _ _ _ _ _ _).2.1, (six w _ _ _ _ _ _).1, by omega, by omega, (six w _ _ _ _ _ _).2.2.2.2.drew⟩
end Go.Proofs.Ythiehpofmlbehaa
