/-
  A tag that comes in, opened.
-/
import Derived.Test.YtfacmeblldljdaaTagP
import Derived.Test.YtfacmeblldljdaaOpen
namespace Go.Proofs.Ytfacmeblldljdaa
open Go.RowKit
set_option linter.unusedVariables false
set_option maxRecDepth 100000
def TagOk (a b s : Int) : Prop := (Lit.int .i64 a).wf = true ∧ (Lit.int .i64 b).wf = true ∧ (Lit.int .u32 s).wf = true
theorem opens_tag (w : World) : Opens Try.prog w 25 (fun cs => ∃ a b s, cs = (tcells a b s).toList ∧ TagOk a b s) := by
  have hI : ∀ w : World, Opens Try.prog w 3 _ := fun w => opens_int Try.underlying3
  have hU : ∀ w : World, Opens Try.prog w 23 _ := fun w => opens_int Try.underlying23
  intro H enc fuel cs x h
  obtain ⟨xs, n, _, rfl, hl, hlen, hf⟩ := DataW.trod_struct Try.underlying25 h
  have c3 : Try.prog.cellsOf 25 = 3 := by kernel_rfl
  have ci : Try.prog.cellsOf 3 = 1 := by kernel_rfl
  have cu : Try.prog.cellsOf 23 = 1 := by kernel_rfl
  rw [c3] at hl
  match xs, hlen, cs, hl with
  | [y0, y1, y2], _, [v0, v1, v2], _ =>
    have g0 := hf 0 _ rfl
    have g1 := hf 1 _ rfl
    have g2 := hf 2 _ rfl
    simp [ci, cu] at g0 g1 g2
    obtain ⟨a0, h0, p0⟩ := hI w _ _ _ _ _ g0
    obtain ⟨a1, h1, p1⟩ := hI w _ _ _ _ _ g1
    obtain ⟨a2, h2, p2⟩ := hU w _ _ _ _ _ g2
    simp at h0 h1 h2
    subst h0 h1 h2
    exact ⟨a0, a1, a2, rfl, p0, p1, p2⟩
theorem TagOk.sum {a b s : Int} (h : TagOk a b s) : 0 ≤ s ∧ s < 4294967296 := by
  have := h.2.2
  simp [Lit.wf, IntKind.min, IntKind.max, IntKind.signed, IntKind.bits] at this; omega
end Go.Proofs.Ytfacmeblldljdaa
