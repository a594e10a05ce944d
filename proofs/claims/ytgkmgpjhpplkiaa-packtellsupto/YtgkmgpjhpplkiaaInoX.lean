/-
  Inodes that come in, opened.
-/
import Derived.Test.YtgkmgpjhpplkiaaEntX
import Derived.Test.YtgkmgpjhpplkiaaRunsM
namespace Go.Proofs.Ytgkmgpjhpplkiaa
open Go.RowKit
set_option linter.unusedVariables false
set_option maxRecDepth 100000
theorem opens_run (w : World) : Opens Try.prog w 67 (fun cs => ∃ o : Rn, cs = o.cells ∧ o.Wf) := by
  have hI : ∀ w : World, Opens Try.prog w 3 _ := fun w => opens_int Try.underlying3
  intro H enc fuel cs x h
  obtain ⟨xs, n, _, rfl, hl, hlen, hf⟩ := DataW.trod_struct Try.underlying67 h
  have c3 : Try.prog.cellsOf 67 = 3 := by kernel_rfl
  have ci : Try.prog.cellsOf 3 = 1 := by kernel_rfl
  rw [c3] at hl
  match xs, hlen, cs, hl with
  | [y0, y1, y2], _, [v0, v1, v2], _ =>
    have g0 := hf 0 _ rfl
    have g1 := hf 1 _ rfl
    have g2 := hf 2 _ rfl
    simp [ci] at g0 g1 g2
    obtain ⟨a0, h0, p0⟩ := hI w _ _ _ _ _ g0
    obtain ⟨a1, h1, p1⟩ := hI w _ _ _ _ _ g1
    obtain ⟨a2, h2, p2⟩ := hI w _ _ _ _ _ g2
    simp at h0 h1 h2
    subst h0 h1 h2
    exact ⟨⟨a0, a1, a2⟩, rfl, ⟨p0, p1, p2⟩⟩
theorem opens_runs (w : World) : Opens Try.prog w 34 (fun cs => ∃ v xs, cs = [v] ∧ RRow w v xs) := by
  have h := opens_slice Try.underlying34 Rn.cells Rn.Wf (opens_run w)
  rw [show Try.prog.cellsOf 67 = 3 from by kernel_rfl] at h
  exact h.mono fun cs ⟨v, xs, h1, h2, h3⟩ => ⟨v, xs, h1, h2, h3⟩

/-- An inode that may come in. -/
def InoOk (w : World) (no kind links size : Int) (t : ByteArray) (ev rv : Value) (es : List En) (rs : List Rn) : Prop :=
  (Lit.int .i64 no).wf = true ∧ (Lit.int .i64 kind).wf = true ∧ (Lit.int .i64 links).wf = true ∧ (Lit.int .i64 size).wf = true ∧ t.size ≤ maxLen ∧ ERow w ev es ∧ RRow w rv rs
def icells (no kind links size : Int) (t : ByteArray) (ev rv : Value) : Array Value := #[.int .i64 no, .int .i64 kind, .int .i64 links, .int .i64 size, .string t, ev, rv]
theorem opens_inode (w : World) : Opens Try.prog w 36 (fun cs => ∃ no kind links size t ev rv es rs, cs = (icells no kind links size t ev rv).toList ∧ InoOk w no kind links size t ev rv es rs) := by
  have hI : ∀ w : World, Opens Try.prog w 3 _ := fun w => opens_int Try.underlying3
  have hS : ∀ w : World, Opens Try.prog w 9 _ := fun w => opens_string Try.underlying9
  intro H enc fuel cs x h
  obtain ⟨xs, n, _, rfl, hl, hlen, hf⟩ := DataW.trod_struct Try.underlying36 h
  have c7 : Try.prog.cellsOf 36 = 7 := by kernel_rfl
  have ci : Try.prog.cellsOf 3 = 1 := by kernel_rfl
  have ct : Try.prog.cellsOf 9 = 1 := by kernel_rfl
  have ce : Try.prog.cellsOf 33 = 1 := by kernel_rfl
  have cr : Try.prog.cellsOf 34 = 1 := by kernel_rfl
  rw [c7] at hl
  match xs, hlen, cs, hl with
  | [y0, y1, y2, y3, y4, y5, y6], _, [v0, v1, v2, v3, v4, v5, v6], _ =>
    have g0 := hf 0 _ rfl
    have g1 := hf 1 _ rfl
    have g2 := hf 2 _ rfl
    have g3 := hf 3 _ rfl
    have g4 := hf 4 _ rfl
    have g5 := hf 5 _ rfl
    have g6 := hf 6 _ rfl
    simp [ci, ct, ce, cr] at g0 g1 g2 g3 g4 g5 g6
    obtain ⟨a0, h0, p0⟩ := hI w _ _ _ _ _ g0
    obtain ⟨a1, h1, p1⟩ := hI w _ _ _ _ _ g1
    obtain ⟨a2, h2, p2⟩ := hI w _ _ _ _ _ g2
    obtain ⟨a3, h3, p3⟩ := hI w _ _ _ _ _ g3
    obtain ⟨a4, h4, p4⟩ := hS w _ _ _ _ _ g4
    obtain ⟨a5, es, h5, p5⟩ := opens_ents w _ _ _ _ _ g5
    obtain ⟨a6, rs, h6, p6⟩ := opens_runs w _ _ _ _ _ g6
    simp at h0 h1 h2 h3 h4 h5 h6
    subst h0 h1 h2 h3 h4 h5 h6
    exact ⟨a0, a1, a2, a3, a4, _, _, es, rs, rfl, p0, p1, p2, p3, p4, p5, p6⟩
end Go.Proofs.Ytgkmgpjhpplkiaa
