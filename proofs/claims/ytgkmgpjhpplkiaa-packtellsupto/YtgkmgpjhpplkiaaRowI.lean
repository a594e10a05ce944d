/-
  Rows of integers as equations: make, an index, its length; a number stored into an owned one (for walks without package runs).
-/
import Derived.Test.YtgkmgpjhpplkiaaInts
import Derived.Test.YtgkmgpjhpplkiaaIntsI
import Derived.Test.YtgkmgpjhpplkiaaCore
import Derived.Test.YtgkmgpjhpplkiaaSays
namespace Go.Proofs.Ytgkmgpjhpplkiaa
open Go.RowKit
set_option linter.unusedVariables false
set_option maxRecDepth 100000

theorem infoInt9 : (Try.prog.info? 3).map (fun i => (i.zero, i.size, i.bytes)) = some (some (.int .i64 0), 1, 8) := by kernel_rfl
theorem made_ints (n : Nat) : madeCells (Value.int .i64 0).cells n = (iv .i64 (List.replicate n 0)).toArray := by
  apply Array.ext'
  simp [madeCells, iv, Value.cells]
  apply List.ext_getElem
  · simp
  · intro i h1 h2
    simp [Nat.mod_one]
theorem run_make_ints (w : World) (n : Nat) (hn : n ≤ 1000000) : (Instr.makeSlice 75 (.int .i64 n) (.int .i64 n)).run Try.prog w = .ok (.slice (some ⟨w.heap.size, 0, none⟩) n n) (w.alloc (.cells (iv .i64 (List.replicate n 0)).toArray 3)) := by
  obtain ⟨i0, hi, hz0, hz1, hz2⟩ := info_parts infoInt9
  have := run_makeSlice (P := Try.prog) (w := w) 75 3 i0 (.int .i64 0) Try.underlying75 hi hz0 .i64 .i64 (n : Int) (n : Int) (by omega) (by omega) (by rw [hz1]; simp; omega) (by rw [hz2]; omega) (by omega)
  rw [hz1, made_ints] at this
  simpa using this
theorem own_ints (w : World) (n : Nat) (hn : n ≤ 1000000) : IOwn .i64 3 w.heap.size (w.alloc (.cells (iv .i64 (List.replicate n 0)).toArray 3)) (.slice (some ⟨w.heap.size, 0, none⟩) n n) (List.replicate n 0) := by
  have h := World.ownsRow_lit (base := w.heap.size) (size := 1) (e := 3) w (iv .i64 (List.replicate n 0)).toArray n (Nat.le_refl _) (by unfold maxLen; omega) (by simp [iv_length])
  refine ⟨?_, fun x hx => ?_⟩
  · rw [List.length_replicate]
    simpa using h
  · rw [List.mem_replicate] at hx
    rw [hx.2]
    decide
theorem IOwn.cellAt {k : IntKind} {e : TypeId} {base : Nat} {w : World} {g n cap : Nat} {xs : List Int} (h : IOwn k e base w (.slice (some ⟨g, 0, none⟩) n cap) xs) (hn : xs.length = n) (j : Nat) (hj : j < n) : w.cell? ⟨g, j, none⟩ = some (.int k (xs.getD j 0)) := by
  subst hn
  rw [h.1.cellAt j (by omega), iv_at hj]
theorem IOwn.frozenAt {k : IntKind} {e : TypeId} {base : Nat} {w : World} {g n cap : Nat} {xs : List Int} (h : IOwn k e base w (.slice (some ⟨g, 0, none⟩) n cap) xs) (hn : xs.length = n) (j : Nat) : w.frozen? ⟨g, j, none⟩ = false := by
  subst hn
  exact h.1.frozenAt j
theorem IOwn.stored {k : IntKind} {e : TypeId} {base : Nat} {w : World} {g n cap : Nat} {xs : List Int} (h : IOwn k e base w (.slice (some ⟨g, 0, none⟩) n cap) xs) (hn : xs.length = n) (j : Nat) (y : Int) (hy : (Lit.int k y).wf = true) :
    IOwn k e base (w.setCell ⟨g, j, none⟩ (.int k y)) (.slice (some ⟨g, 0, none⟩) n cap) (xs.set j y) := by
  subst hn
  refine ⟨?_, ?_⟩
  · have := (h.1.stored j (.int k y)).1
    rw [List.length_set]
    rwa [show (iv k xs).set j (.int k y) = iv k (xs.set j y) from by simp [iv, List.map_set]] at this
  · intro x hx
    rcases List.mem_or_eq_of_mem_set hx with h' | rfl
    · exact h.2 x h'
    · exact hy
theorem IOwn.drew {k : IntKind} {e : TypeId} {base : Nat} {w : World} {v : Value} {xs : List Int} (h : IOwn k e base w v xs) : IOwn k e base w.drew v xs := h
theorem IOwn.lt {k : IntKind} {e : TypeId} {base : Nat} {w : World} {g off n cap : Nat} {xs : List Int} (h : IOwn k e base w (.slice (some ⟨g, off, none⟩) n cap) xs) : base ≤ g ∧ g < w.heap.size := h.block g rfl
theorem sizeI9 (w : World) : (sizeOf (Try.prog.elem 75)).run Try.prog w = .ok 1 w := by kernel_rfl
theorem intsTy9 : Try.prog.underlying 75 = some (.slice (Try.prog.elem 75)) := Try.underlying75
theorem IRow.lenI {w : World} {v : Value} {xs : List Int} (h : IRow .i64 w v xs) (w' : World) (ty : TypeId) : (Builtin.len_ #[75] ty #[v]).run Try.prog w' = .ok (.int .i64 xs.length) w' := by
  obtain ⟨ao, cap, rfl⟩ := h.of_len
  simp [Builtin.len_, run_underlying intsTy9, goInt]
theorem IRow.idxI {w : World} {v : Value} {xs : List Int} (h : IRow .i64 w v xs) (k : Nat) (hk : k < xs.length) :
    ∃ b o : Nat, b < w.heap.size ∧ (∀ w', (Instr.indexAt 75 v (.int .i64 k)).run Try.prog w' = .ok (.pointer (some ⟨b, o, none⟩)) w') ∧ w.cell? ⟨b, o, none⟩ = some (.int .i64 (xs.getD k 0)) := by
  obtain ⟨b, off, cap, rfl, hlt, hc⟩ := h.at (by omega)
  refine ⟨b, off + k, hlt, fun w' => ?_, hc k hk⟩
  rw [run_indexAt_slice _ _ _ _ _ _ _ intsTy9]
  simp [sizeI9, Result.andThen, hk, Addr.add_lit]

theorem getD_set {xs : List Int} {i j : Nat} {x : Int} (hj : j < xs.length) : (xs.set i x).getD j 0 = if i = j then x else xs.getD j 0 := by
  simp only [List.getD, List.getElem?_set]
  by_cases h : i = j
  · subst h; simp [hj]
  · simp [h]
end Go.Proofs.Ytgkmgpjhpplkiaa
