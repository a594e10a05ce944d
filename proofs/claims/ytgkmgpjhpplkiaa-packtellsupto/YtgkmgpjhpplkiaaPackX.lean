/-
  Deeds that come in, opened.
-/
import Derived.Test.YtgkmgpjhpplkiaaPackM
namespace Go.Proofs.Ytgkmgpjhpplkiaa
open Go.RowKit
set_option linter.unusedVariables false
set_option maxRecDepth 100000
theorem ERow.oneCell {w : World} {v : Value} {l : List En} (h : ERow w v l) : v.oneCell' = true := by
  obtain ⟨ao, cap, rfl⟩ := h.of_len
  rfl
theorem RRow.oneCell {w : World} {v : Value} {l : List Rn} (h : RRow w v l) : v.oneCell' = true := by
  obtain ⟨ao, cap, rfl⟩ := h.of_len
  rfl
theorem opens_deed (w : World) : Opens Try.prog w 38 (fun cs => ∃ x : Dv, cs = x.cells ∧ (x.Wf ∧ x.Reads w)) := by
  have hI : ∀ w : World, Opens Try.prog w 3 _ := fun w => opens_int Try.underlying3
  intro H enc fuel cs x h
  obtain ⟨xs, n, _, rfl, hl, hlen, hf⟩ := DataW.trod_struct Try.underlying38 h
  have c9 : Try.prog.cellsOf 38 = 9 := by kernel_rfl
  have ci : Try.prog.cellsOf 3 = 1 := by kernel_rfl
  have c7 : Try.prog.cellsOf 36 = 7 := by kernel_rfl
  rw [c9] at hl
  match xs, hlen, cs, hl with
  | [y0, y1, y2], _, [v0, v1, v2, v3, v4, v5, v6, v7, v8], _ =>
    have g0 := hf 0 _ rfl
    have g1 := hf 1 _ rfl
    have g2 := hf 2 _ rfl
    simp [ci, c7] at g0 g1 g2
    obtain ⟨a0, h0, p0⟩ := hI w _ _ _ _ _ g0
    obtain ⟨a1, h1, p1⟩ := hI w _ _ _ _ _ g1
    obtain ⟨no, kind, links, size, t, ev, rv, es, rs, h2, q0, q1, q2, q3, q4, q5, q6⟩ := opens_inode w _ _ _ _ _ g2
    unfold icells at h2
    simp at h0 h1 h2
    obtain ⟨rfl, rfl, rfl, rfl, rfl, rfl, rfl⟩ := h2
    subst h0 h1
    exact ⟨⟨⟨a0, a1, ⟨no, kind, links, size, t, es, rs⟩⟩, _, _⟩, rfl, ⟨p0, p1, q0, q1, q2, q3, q4, q5.oneCell, q6.oneCell⟩, q5, q6⟩
theorem opens_deeds (w : World) : Opens Try.prog w 22 (fun cs => ∃ v xs, cs = [v] ∧ DRow w v xs) := by
  have h := opens_slice Try.underlying22 Dv.cells (fun x => x.Wf ∧ x.Reads w) (opens_deed w)
  rw [show Try.prog.cellsOf 38 = 9 from by kernel_rfl] at h
  exact h.mono fun cs ⟨v, xs, h1, h2, h3⟩ => ⟨v, xs, h1, ⟨h2, fun x hx => (h3 x hx).1⟩, fun x hx => (h3 x hx).2⟩
end Go.Proofs.Ytgkmgpjhpplkiaa
