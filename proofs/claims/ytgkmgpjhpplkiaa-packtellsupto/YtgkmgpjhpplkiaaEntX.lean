/-
  Entries that come in, opened.
-/
import Derived.Test.YtgkmgpjhpplkiaaEntM
namespace Go.Proofs.Ytgkmgpjhpplkiaa
open Go.RowKit
set_option linter.unusedVariables false
set_option maxRecDepth 100000
theorem opens_entry (w : World) : Opens Try.prog w 49 (fun cs => ∃ s n, cs = (⟨s, n⟩ : En).cells ∧ (⟨s, n⟩ : En).Wf) := by
  have hI : ∀ w : World, Opens Try.prog w 3 _ := fun w => opens_int Try.underlying3
  have hS : ∀ w : World, Opens Try.prog w 9 _ := fun w => opens_string Try.underlying9
  intro H enc fuel cs x h
  obtain ⟨xs, n, _, rfl, hl, hlen, hf⟩ := DataW.trod_struct Try.underlying49 h
  have c2 : Try.prog.cellsOf 49 = 2 := by kernel_rfl
  have ci : Try.prog.cellsOf 3 = 1 := by kernel_rfl
  have ct : Try.prog.cellsOf 9 = 1 := by kernel_rfl
  rw [c2] at hl
  match xs, hlen, cs, hl with
  | [y0, y1], _, [v0, v1], _ =>
    have g0 := hf 0 _ rfl
    have g1 := hf 1 _ rfl
    simp [ci, ct] at g0 g1
    obtain ⟨a0, h0, p0⟩ := hS w _ _ _ _ _ g0
    obtain ⟨a1, h1, p1⟩ := hI w _ _ _ _ _ g1
    simp at h0 h1
    subst h0 h1
    exact ⟨a0, a1, rfl, p0, p1⟩
theorem opens_ents (w : World) : Opens Try.prog w 33 (fun cs => ∃ v xs, cs = [v] ∧ ERow w v xs) := by
  have h := opens_slice Try.underlying33 En.cells En.Wf ((opens_entry w).mono fun cs ⟨s, n, h1, h2⟩ => ⟨⟨s, n⟩, h1, h2⟩)
  rw [show Try.prog.cellsOf 49 = 2 from by kernel_rfl] at h
  exact h.mono fun cs ⟨v, xs, h1, h2, h3⟩ => ⟨v, xs, h1, h2, h3⟩
theorem EntriesTell_open0 (w : World) : Opens Try.prog w 33 (fun cs => ∃ v xs, cs = [v] ∧ ERow w v xs) := opens_ents w
theorem EntriesPlay_open0 (w : World) : Opens Try.prog w 33 (fun cs => ∃ v xs, cs = [v] ∧ ERow w v xs) := opens_ents w
end Go.Proofs.Ytgkmgpjhpplkiaa
