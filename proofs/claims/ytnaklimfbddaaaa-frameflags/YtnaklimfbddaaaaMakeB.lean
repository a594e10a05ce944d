/-
  'make([]byte, n)' as an equation; the row that it is.
-/
import Derived.Test.YtnaklimfbddaaaaBlk
namespace Go.Proofs.Ytnaklimfbddaaaa
open Go.RowKit
set_option linter.unusedVariables false

theorem made_bytes (n : Nat) : madeCells (Value.int .u8 0).cells n = (bv (List.replicate n 0)).toArray := by
  apply Array.ext'
  simp [madeCells, bv, Value.cells]
  apply List.ext_getElem
  · simp
  · intro i h1 h2
    simp [Nat.mod_one]
theorem Blk.bytes {w : World} {g : Nat} {xs : List Int} {n : Nat} (h : Blk w g (bv xs).toArray 5) (hn : xs.length = n) (hm : n ≤ maxLen) (hb : Bys xs) : Row w (.slice (some ⟨g, 0, none⟩) n n) xs := by
  subst hn
  refine Row.mk (off := 0) (Nat.le_refl _) hm (fun i hi => ?_) hb
  rw [Nat.zero_add, h.cell i, List.getElem?_toArray, bv_at hi]
theorem run_make_bytes (w : World) (n : Nat) (hn : n ≤ 10000000) : (Instr.makeSlice 22 (.int .i64 n) (.int .i64 n)).run Try.prog w = .ok (.slice (some ⟨w.heap.size, 0, none⟩) n n) (w.alloc (.cells (bv (List.replicate n 0)).toArray 5)) := by
  obtain ⟨i0, hi, hz0, hz1, hz2⟩ := info_parts infoByte
  have := run_makeSlice (P := Try.prog) (w := w) 22 5 i0 (.int .u8 0) Try.underlying22 hi hz0 .i64 .i64 (n : Int) (n : Int) (by omega) (by omega) (by rw [hz1]; simp; omega) (by rw [hz2]; omega) (by omega)
  rw [hz1, made_bytes] at this
  simpa using this
theorem rep_bys (n : Nat) (x : Int) (hx : 0 ≤ x ∧ x < 256) : Bys (List.replicate n x) := by
  intro y hy
  rw [List.mem_replicate] at hy
  omega
end Go.Proofs.Ytnaklimfbddaaaa
