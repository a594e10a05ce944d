/-
  Deeds that come in, opened with their bulk.
-/
import Derived.Test.YtgkmgpjhpplkiaaOpenB
import Derived.Test.YtgkmgpjhpplkiaaPackX
namespace Go.Proofs.Ytgkmgpjhpplkiaa
open Go.RowKit
set_option linter.unusedVariables false
set_option maxRecDepth 100000

def wtE (e : En) : Nat := e.s.size + 3
def wtR (r : Rn) : Nat := 4
def wtI (x : Ino) : Nat := x.t.size + (x.es.map wtE).sum + (x.rs.map wtR).sum + 8
def wtD (d : Dd) : Nat := wtI d.x + 3
def wtL (l : List Dd) : Nat := (l.map wtD).sum
theorem wtR_sum (l : List Rn) : (l.map wtR).sum = 4 * l.length := by
  induction l with
  | nil => rfl
  | cons r t ih => rw [List.map_cons, List.sum_cons, ih, List.length_cons]; unfold wtR; omega

theorem opensN_entry (w : World) : OpensN Try.prog w 49 (fun cs n => ∃ x : En, cs = x.cells ∧ x.Wf ∧ wtE x ≤ n) := by
  have hI : ∀ w : World, OpensN Try.prog w 3 _ := fun w => (opens_int Try.underlying3).toN
  have hS : ∀ w : World, OpensN Try.prog w 9 _ := fun w => opensN_string Try.underlying9
  intro H enc fuel cs x h
  obtain ⟨xs, n, _, rfl, hl, hlen, hf⟩ := DataW.trod_struct Try.underlying49 h
  have c2 : Try.prog.cellsOf 49 = 2 := by kernel_rfl
  have ci : Try.prog.cellsOf 3 = 1 := by kernel_rfl
  have ct : Try.prog.cellsOf 9 = 1 := by kernel_rfl
  rw [c2] at hl
  match xs, hlen, cs, hl with
  | [y0, y1], _, [v0, v1], _ =>
    have g0 := hf 0 _ rfl
    have g1 := hf 1 _ rfl
    simp [ci, ct] at g0 g1
    obtain ⟨a0, h0, p0, q0⟩ := hS w _ _ _ _ _ g0
    obtain ⟨⟨a1, h1, p1⟩, q1⟩ := hI w _ _ _ _ _ g1
    simp at h0 h1
    subst h0 h1
    exact ⟨⟨a0, a1⟩, rfl, ⟨p0, p1⟩, by simp only [List.map, Rows.uptoBulk, Rows.uptoBulkAll, wtE]; omega⟩
theorem opensN_ents (w : World) : OpensN Try.prog w 33 (fun cs n => ∃ v xs, cs = [v] ∧ ERow w v xs ∧ (xs.map wtE).sum + 1 ≤ n) := by
  have h := opensN_slice Try.underlying33 En.cells En.Wf wtE (opensN_entry w)
  rw [show Try.prog.cellsOf 49 = 2 from by kernel_rfl] at h
  exact h.mono fun cs n ⟨v, xs, h1, h2, h3, h4⟩ => ⟨v, xs, h1, ⟨h2, h3⟩, h4⟩
theorem opensN_run (w : World) : OpensN Try.prog w 67 (fun cs n => ∃ x : Rn, cs = x.cells ∧ x.Wf ∧ wtR x ≤ n) := by
  have hI : ∀ w : World, OpensN Try.prog w 3 _ := fun w => (opens_int Try.underlying3).toN
  intro H enc fuel cs x h
  obtain ⟨xs, n, _, rfl, hl, hlen, hf⟩ := DataW.trod_struct Try.underlying67 h
  have c3 : Try.prog.cellsOf 67 = 3 := by kernel_rfl
  have ci : Try.prog.cellsOf 3 = 1 := by kernel_rfl
  rw [c3] at hl
  match xs, hlen, cs, hl with
  | [y0, y1, y2], _, [v0, v1, v2], _ =>
    have g0 := hf 0 _ rfl
    have g1 := hf 1 _ rfl
    have g2 := hf 2 _ rfl
    simp [ci] at g0 g1 g2
    obtain ⟨⟨a0, h0, p0⟩, q0⟩ := hI w _ _ _ _ _ g0
    obtain ⟨⟨a1, h1, p1⟩, q1⟩ := hI w _ _ _ _ _ g1
    obtain ⟨⟨a2, h2, p2⟩, q2⟩ := hI w _ _ _ _ _ g2
    simp at h0 h1 h2
    subst h0 h1 h2
    exact ⟨⟨a0, a1, a2⟩, rfl, ⟨p0, p1, p2⟩, by simp only [List.map, Rows.uptoBulk, Rows.uptoBulkAll, wtR]; omega⟩
theorem opensN_runs (w : World) : OpensN Try.prog w 34 (fun cs n => ∃ v xs, cs = [v] ∧ RRow w v xs ∧ (xs.map wtR).sum + 1 ≤ n) := by
  have h := opensN_slice Try.underlying34 Rn.cells Rn.Wf wtR (opensN_run w)
  rw [show Try.prog.cellsOf 67 = 3 from by kernel_rfl] at h
  exact h.mono fun cs n ⟨v, xs, h1, h2, h3, h4⟩ => ⟨v, xs, h1, ⟨h2, h3⟩, h4⟩
theorem opensN_inode (w : World) : OpensN Try.prog w 36 (fun cs n => ∃ no kind links size t ev rv es rs, cs = (icells no kind links size t ev rv).toList ∧ InoOk w no kind links size t ev rv es rs ∧ wtI ⟨no, kind, links, size, t, es, rs⟩ ≤ n) := by
  have hI : ∀ w : World, OpensN Try.prog w 3 _ := fun w => (opens_int Try.underlying3).toN
  have hS : ∀ w : World, OpensN Try.prog w 9 _ := fun w => opensN_string Try.underlying9
  intro H enc fuel cs x h
  obtain ⟨xs, n, _, rfl, hl, hlen, hf⟩ := DataW.trod_struct Try.underlying36 h
  have c7 : Try.prog.cellsOf 36 = 7 := by kernel_rfl
  have ci : Try.prog.cellsOf 3 = 1 := by kernel_rfl
  have ct : Try.prog.cellsOf 9 = 1 := by kernel_rfl
  have ce : Try.prog.cellsOf 33 = 1 := by kernel_rfl
  have cr : Try.prog.cellsOf 34 = 1 := by kernel_rfl
  rw [c7] at hl
  match xs, hlen, cs, hl with
  | [y0, y1, y2, y3, y4, y5, y6], _, [v0, v1, v2, v3, v4, v5, v6], _ =>
    have g0 := hf 0 _ rfl
    have g1 := hf 1 _ rfl
    have g2 := hf 2 _ rfl
    have g3 := hf 3 _ rfl
    have g4 := hf 4 _ rfl
    have g5 := hf 5 _ rfl
    have g6 := hf 6 _ rfl
    simp [ci, ct, ce, cr] at g0 g1 g2 g3 g4 g5 g6
    obtain ⟨⟨a0, h0, p0⟩, q0⟩ := hI w _ _ _ _ _ g0
    obtain ⟨⟨a1, h1, p1⟩, q1⟩ := hI w _ _ _ _ _ g1
    obtain ⟨⟨a2, h2, p2⟩, q2⟩ := hI w _ _ _ _ _ g2
    obtain ⟨⟨a3, h3, p3⟩, q3⟩ := hI w _ _ _ _ _ g3
    obtain ⟨a4, h4, p4, q4⟩ := hS w _ _ _ _ _ g4
    obtain ⟨a5, es, h5, p5, q5⟩ := opensN_ents w _ _ _ _ _ g5
    obtain ⟨a6, rs, h6, p6, q6⟩ := opensN_runs w _ _ _ _ _ g6
    simp at h0 h1 h2 h3 h4 h5 h6
    subst h0 h1 h2 h3 h4 h5 h6
    exact ⟨a0, a1, a2, a3, a4, _, _, es, rs, rfl, ⟨p0, p1, p2, p3, p4, p5, p6⟩, by simp only [List.map, Rows.uptoBulk, Rows.uptoBulkAll, wtI] at *; omega⟩
theorem opensN_deed (w : World) : OpensN Try.prog w 38 (fun cs n => ∃ x : Dv, cs = x.cells ∧ (x.Wf ∧ x.Reads w) ∧ wtD x.d ≤ n) := by
  have hI : ∀ w : World, OpensN Try.prog w 3 _ := fun w => (opens_int Try.underlying3).toN
  intro H enc fuel cs x h
  obtain ⟨xs, n, _, rfl, hl, hlen, hf⟩ := DataW.trod_struct Try.underlying38 h
  have c9 : Try.prog.cellsOf 38 = 9 := by kernel_rfl
  have ci : Try.prog.cellsOf 3 = 1 := by kernel_rfl
  have c7 : Try.prog.cellsOf 36 = 7 := by kernel_rfl
  rw [c9] at hl
  match xs, hlen, cs, hl with
  | [y0, y1, y2], _, [v0, v1, v2, v3, v4, v5, v6, v7, v8], _ =>
    have g0 := hf 0 _ rfl
    have g1 := hf 1 _ rfl
    have g2 := hf 2 _ rfl
    simp [ci, c7] at g0 g1 g2
    obtain ⟨⟨a0, h0, p0⟩, r0⟩ := hI w _ _ _ _ _ g0
    obtain ⟨⟨a1, h1, p1⟩, r1⟩ := hI w _ _ _ _ _ g1
    obtain ⟨no, kind, links, size, t, ev, rv, es, rs, h2, ⟨q0, q1, q2, q3, q4, q5, q6⟩, r2⟩ := opensN_inode w _ _ _ _ _ g2
    unfold icells at h2
    simp at h0 h1 h2
    obtain ⟨rfl, rfl, rfl, rfl, rfl, rfl, rfl⟩ := h2
    subst h0 h1
    exact ⟨⟨⟨a0, a1, ⟨no, kind, links, size, t, es, rs⟩⟩, _, _⟩, rfl, ⟨⟨p0, p1, q0, q1, q2, q3, q4, q5.oneCell, q6.oneCell⟩, q5, q6⟩, by simp only [List.map, Rows.uptoBulk, Rows.uptoBulkAll, wtD] at *; omega⟩
theorem opensN_deeds (w : World) : OpensN Try.prog w 22 (fun cs n => ∃ v xs, cs = [v] ∧ DRow w v xs ∧ wtL (xs.map Dv.d) + 1 ≤ n) := by
  have h := opensN_slice Try.underlying22 Dv.cells (fun x => x.Wf ∧ x.Reads w) (fun x => wtD x.d) (opensN_deed w)
  rw [show Try.prog.cellsOf 38 = 9 from by kernel_rfl] at h
  exact h.mono fun cs n ⟨v, xs, h1, h2, h3, h4⟩ => ⟨v, xs, h1, ⟨⟨h2, fun x hx => (h3 x hx).1⟩, fun x hx => (h3 x hx).2⟩, by unfold wtL; rw [List.map_map]; exact h4⟩
end Go.Proofs.Ytgkmgpjhpplkiaa
