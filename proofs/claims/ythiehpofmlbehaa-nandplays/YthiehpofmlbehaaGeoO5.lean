/-
  A geometry that comes in, opened.
-/
import Derived.Test.YthiehpofmlbehaaGeo
import Derived.Test.YthiehpofmlbehaaOpen
namespace Go.Proofs.Ythiehpofmlbehaa
open Go.RowKit
set_option linter.unusedVariables false
set_option maxRecDepth 100000
def GeoOk (a b c d e : Int) : Prop := (Lit.int .i64 a).wf = true ∧ (Lit.int .i64 b).wf = true ∧ (Lit.int .i64 c).wf = true ∧ (Lit.int .i64 d).wf = true ∧ (Lit.int .i64 e).wf = true
theorem opens_geo (w : World) : Opens Try.prog w 23 (fun cs => ∃ a b c d e, cs = (gcells a b c d e).toList ∧ GeoOk a b c d e) := by
  have hI : ∀ w : World, Opens Try.prog w 3 _ := fun w => opens_int Try.underlying3
  intro H enc fuel cs x h
  obtain ⟨xs, n, _, rfl, hl, hlen, hf⟩ := DataW.trod_struct Try.underlying23 h
  have c5 : Try.prog.cellsOf 23 = 5 := by kernel_rfl
  have ci : Try.prog.cellsOf 3 = 1 := by kernel_rfl
  rw [c5] at hl
  match xs, hlen, cs, hl with
  | [y0, y1, y2, y3, y4], _, [v0, v1, v2, v3, v4], _ =>
    have g0 := hf 0 _ rfl
    have g1 := hf 1 _ rfl
    have g2 := hf 2 _ rfl
    have g3 := hf 3 _ rfl
    have g4 := hf 4 _ rfl
    simp [ci] at g0 g1 g2 g3 g4
    obtain ⟨a0, h0, p0⟩ := hI w _ _ _ _ _ g0
    obtain ⟨a1, h1, p1⟩ := hI w _ _ _ _ _ g1
    obtain ⟨a2, h2, p2⟩ := hI w _ _ _ _ _ g2
    obtain ⟨a3, h3, p3⟩ := hI w _ _ _ _ _ g3
    obtain ⟨a4, h4, p4⟩ := hI w _ _ _ _ _ g4
    simp at h0 h1 h2 h3 h4
    subst h0 h1 h2 h3 h4
    exact ⟨a0, a1, a2, a3, a4, rfl, p0, p1, p2, p3, p4⟩
end Go.Proofs.Ythiehpofmlbehaa
