/-
  Inodes: New, the document's New.
-/
import Derived.Laws.Rows
import Derived.Deep.Cut
import Derived.Test.YtgkmgpjhpplkiaaInoB
namespace Go.Proofs.Ytgkmgpjhpplkiaa
open Go.RowKit
set_option linter.unusedVariables false
set_option maxRecDepth 100000

/-- Answers an inode, and nothing elder has turned. -/
def SaysI (x : Ino) (w : World) (e : Ending) (w' : World) : Prop :=
  e = .returned (.agg #[.int .i64 x.no, .int .i64 x.kind, .int .i64 x.links, .int .i64 x.size, .string x.t, .slice none 0 0, .slice none 0 0]) ∧ Below w.heap.size w w'

/-- A struct of seven cells, stored whole. -/
theorem blk_over {V : World} {B : Nat} {t : TypeId} {z0 z1 z2 z3 z4 z5 z6 : Value} (h : Blk V B #[z0, z1, z2, z3, z4, z5, z6] t) (v0 v1 v2 v3 v4 v5 v6 : Value) :
    Blk (((((((V.setCell ⟨B, 0, none⟩ v0).setCell ⟨B, 1, none⟩ v1).setCell ⟨B, 2, none⟩ v2).setCell ⟨B, 3, none⟩ v3).setCell ⟨B, 4, none⟩ v4).setCell ⟨B, 5, none⟩ v5).setCell ⟨B, 6, none⟩ v6) B #[v0, v1, v2, v3, v4, v5, v6] t := by
  have := ((((((h.set 0 v0).set 1 v1).set 2 v2).set 3 v3).set 4 v4).set 5 v5).set 6 v6
  simpa using this
theorem below_over {w V : World} {B C : Nat} (h : Below C w V) (hc : C ≤ B) (v0 v1 v2 v3 v4 v5 v6 : Value) :
    Below C w (((((((V.setCell ⟨B, 0, none⟩ v0).setCell ⟨B, 1, none⟩ v1).setCell ⟨B, 2, none⟩ v2).setCell ⟨B, 3, none⟩ v3).setCell ⟨B, 4, none⟩ v4).setCell ⟨B, 5, none⟩ v5).setCell ⟨B, 6, none⟩ v6) :=
  ((((((h.setCell (p := ⟨B, 0, none⟩) hc v0).setCell (p := ⟨B, 1, none⟩) hc v1).setCell (p := ⟨B, 2, none⟩) hc v2).setCell (p := ⟨B, 3, none⟩) hc v3).setCell (p := ⟨B, 4, none⟩) hc v4).setCell (p := ⟨B, 5, none⟩) hc v5).setCell (p := ⟨B, 6, none⟩) hc v6
end Go.Proofs.Ytgkmgpjhpplkiaa
