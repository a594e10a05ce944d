/-
  The last run of an owned row; one more behind an owned row.
-/
import Derived.Test.YtlfodhffecadoaaRunsC
namespace Go.Proofs.Ytlfodhffecadoaa
open Go.RowKit
set_option linter.unusedVariables false
set_option maxRecDepth 100000

/-- The last run of an owned row. -/
theorem ROwn.last {base : Nat} {w : World} {v : Value} {m : List Rn} {r : Rn} (h : ROwn base w v (m ++ [r])) :
    ∃ g, base ≤ g ∧ g < w.heap.size ∧ v.ownBlock = some g ∧ (∀ w', (Instr.indexAt 23 v (.int .i64 (m.length : Int))).run Try.prog w' = .ok (.pointer (some ⟨g, m.length * 3, none⟩)) w') ∧
      (w.cell? ⟨g, m.length * 3, none⟩ = some (.int .i64 r.f) ∧ w.cell? ⟨g, m.length * 3 + 1, none⟩ = some (.int .i64 r.a) ∧ w.cell? ⟨g, m.length * 3 + 2, none⟩ = some (.int .i64 r.n)) ∧
      w.frozen? ⟨g, m.length * 3 + 2, none⟩ = false ∧ ∀ n', (Lit.int .i64 n').wf = true → ROwn base (w.setCell ⟨g, m.length * 3 + 2, none⟩ (.int .i64 n')) v (m ++ [⟨r.f, r.a, n'⟩]) := by
  have hl : (m ++ [r]).length = m.length + 1 := by simp
  obtain ⟨g, cap, hv, hg1, hg2, hcap⟩ := h.form (by omega)
  have hr : (m ++ [r])[m.length]? = some r := by simp
  have hw := h.2 r (by simp)
  rw [hl] at hv
  subst hv
  refine ⟨g, hg1, hg2, rfl, fun w' => ?_, ⟨?_, ?_, ?_⟩, h.frozenAt hl _, fun n' hn' => ?_⟩
  · rw [run_indexAt_slice _ _ _ _ _ _ _ runsTy]
    simp [sizeRn, Result.andThen, Addr.add_lit]
    intro hh; exfalso; omega
  · have := h.cellAt hl m.length r hr 0 (by omega)
    simpa [Rn.cells] using this
  · have := h.cellAt hl m.length r hr 1 (by omega)
    simpa [Rn.cells] using this
  · have := h.cellAt hl m.length r hr 2 (by omega)
    simpa [Rn.cells] using this
  · have := h.stored hl m.length 2 r ⟨r.f, r.a, n'⟩ (.int .i64 n') hr (by omega) rfl ⟨hw.f, hw.a, hn'⟩
    simpa [List.set_append_right] using this

theorem below_drewN' {B : Nat} {w0 w : World} (h : Below B w0 w) (q : Nat) : Below B w0 (w.drewN q) := ⟨h.os, h.tape, h.output, h.size, h.block⟩
/-- A run in a new block, beside an owned row. -/
theorem app_new {base : Nat} {w0 : World} (W : World) (hb : Below w0.heap.size w0 W) {v : Value} {l : List Rn} (ho : ROwn base W v l) (r : Rn) (hw : ∀ x ∈ [r], x.Wf) :
    ROwn base (W.alloc (.cells #[.int .i64 r.f, .int .i64 r.a, .int .i64 r.n] 40)) v l ∧ RRow (W.alloc (.cells #[.int .i64 r.f, .int .i64 r.a, .int .i64 r.n] 40)) (.slice (some ⟨W.heap.size, 0, none⟩) 1 1) [r] ∧ Below w0.heap.size w0 (W.alloc (.cells #[.int .i64 r.f, .int .i64 r.a, .int .i64 r.n] 40)) :=
  ⟨ho.alloc _, runs_new W [r] _ _ 1 rfl rfl (by simp) hw, hb.alloc hb.size _⟩

end Go.Proofs.Ytlfodhffecadoaa
