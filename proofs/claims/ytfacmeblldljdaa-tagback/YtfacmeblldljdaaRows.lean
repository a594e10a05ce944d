/-
  No cell of these rows narrows 'for every input' (looked for: loops, veiled, ifaces, maps, wideKeys, modest, calm, conditions, laid).
  DERIVED. THE GIVEN ROWS OF THIS SEAT. 4 by the template 'for every input the law returns true; each argument reads behind the call as it read before'; 0 by the template 'total and deterministic' (their statements: YtfacmeblldljdaaTotals.lean).
  GIVEN WITH THE SEED: the statements are not yours to turn. If you find one false, say at which input.
  Laid BY PROGRAM, IN A SANDBOX (cutbox-rows.mjs): the forced cells as the released guide's own fill.sh prints them over the translation 54f57fcf53af7f03… (all of the seat's roots in one cut). By AI agents, Wed Nov 11 2026. No macro, syntax, notation, axiom, sorry.
-/
import Derived.Test.YtfacmeblldljdaaChecked
import GoSem.Claim
import GoSem.ClaimJoined
import GoSem.ClaimMapViews
import Derived.JoinedTies
import Derived.KernelRfl
namespace Go.Proofs.Ytfacmeblldljdaa
/- THE CELL 'sum', in the pinned program and in every row, IS THE sha256 OF THE DUMP (.gsa) THAT YtfacmeblldljdaaProg.lean LOADS. Nothing in Lean hashes anything: it is a label: what it is worth is what the hold of that sum in a sandbox is worth. -/
noncomputable def Try.pinned : Pinned := { name := "ytfacmeblldljdaa", sum := "54f57fcf53af7f03b06ae27f0fb705000ed65bc94ccdb6f92bc534ebf9e29477", checked := Try.checked }
namespace Rows
def none {H : Type} : Left H := { results := [], args := [] }

/-- 'garretlaw06.TagTells': WHATEVER THE INPUT: true; the input reads as it did. -/
def tagTellsSpec : ChangeSpec := { name := "tagTells", fn := fun _ => fun
  | [d1, d2, d3, d4, d5] => { results := [.lit (.bool true)], args := [d1, d2, d3, d4, d5] }
  | _ => none }
def tagTellsRow : OpenClaim := { program := "ytfacmeblldljdaa", sum := "54f57fcf53af7f03b06ae27f0fb705000ed65bc94ccdb6f92bc534ebf9e29477", func := "garret/garretlaw06.TagTells", spec := "tagTells", apart := false }
def TagTellsSaid : Prop := tagTellsRow.holds Try.pinned (OpenSpec.ofChange tagTellsSpec)

/-- ITS FALSE NEIGHBOUR: 'it returns false'. Refute it at one input. -/
def tagTellsWrong : ChangeSpec := { name := "tagTells", fn := fun _ => fun
  | [d1, d2, d3, d4, d5] => { results := [.lit (.bool false)], args := [d1, d2, d3, d4, d5] }
  | _ => none }
def TagTellsWrongFalsely : Prop := tagTellsRow.holds Try.pinned (OpenSpec.ofChange tagTellsWrong)

/-- 'garretlaw06.TagBack': WHATEVER THE INPUT: true; the input reads as it did. -/
def tagBackSpec : ChangeSpec := { name := "tagBack", fn := fun _ => fun
  | [d1, d2, d3, d4, d5, d6] => { results := [.lit (.bool true)], args := [d1, d2, d3, d4, d5, d6] }
  | _ => none }
def tagBackRow : OpenClaim := { program := "ytfacmeblldljdaa", sum := "54f57fcf53af7f03b06ae27f0fb705000ed65bc94ccdb6f92bc534ebf9e29477", func := "garret/garretlaw06.TagBack", spec := "tagBack", apart := false }
def TagBackSaid : Prop := tagBackRow.holds Try.pinned (OpenSpec.ofChange tagBackSpec)

/-- ITS FALSE NEIGHBOUR: 'it returns false'. Refute it at one input. -/
def tagBackWrong : ChangeSpec := { name := "tagBack", fn := fun _ => fun
  | [d1, d2, d3, d4, d5, d6] => { results := [.lit (.bool false)], args := [d1, d2, d3, d4, d5, d6] }
  | _ => none }
def TagBackWrongFalsely : Prop := tagBackRow.holds Try.pinned (OpenSpec.ofChange tagBackWrong)

/-- 'garretlaw06.TagBounds': WHATEVER THE INPUT: true; the input reads as it did. -/
def tagBoundsSpec : ChangeSpec := { name := "tagBounds", fn := fun _ => fun
  | [d1, d2, d3] => { results := [.lit (.bool true)], args := [d1, d2, d3] }
  | _ => none }
def tagBoundsRow : OpenClaim := { program := "ytfacmeblldljdaa", sum := "54f57fcf53af7f03b06ae27f0fb705000ed65bc94ccdb6f92bc534ebf9e29477", func := "garret/garretlaw06.TagBounds", spec := "tagBounds", apart := false }
def TagBoundsSaid : Prop := tagBoundsRow.holds Try.pinned (OpenSpec.ofChange tagBoundsSpec)

/-- ITS FALSE NEIGHBOUR: 'it returns false'. Refute it at one input. -/
def tagBoundsWrong : ChangeSpec := { name := "tagBounds", fn := fun _ => fun
  | [d1, d2, d3] => { results := [.lit (.bool false)], args := [d1, d2, d3] }
  | _ => none }
def TagBoundsWrongFalsely : Prop := tagBoundsRow.holds Try.pinned (OpenSpec.ofChange tagBoundsWrong)

/-- 'garretlaw06.TagEach': WHATEVER THE INPUT: true; the input reads as it did. -/
def tagEachSpec : ChangeSpec := { name := "tagEach", fn := fun _ => fun
  | [d1, d2] => { results := [.lit (.bool true)], args := [d1, d2] }
  | _ => none }
def tagEachRow : OpenClaim := { program := "ytfacmeblldljdaa", sum := "54f57fcf53af7f03b06ae27f0fb705000ed65bc94ccdb6f92bc534ebf9e29477", func := "garret/garretlaw06.TagEach", spec := "tagEach", apart := false }
def TagEachSaid : Prop := tagEachRow.holds Try.pinned (OpenSpec.ofChange tagEachSpec)

/-- ITS FALSE NEIGHBOUR: 'it returns false'. Refute it at one input. -/
def tagEachWrong : ChangeSpec := { name := "tagEach", fn := fun _ => fun
  | [d1, d2] => { results := [.lit (.bool false)], args := [d1, d2] }
  | _ => none }
def TagEachWrongFalsely : Prop := tagEachRow.holds Try.pinned (OpenSpec.ofChange tagEachWrong)

/- THE SECOND FORM. 'bulk': how many values and letters a reading holds, each counted each time it is reached (what is shared counts as often as it is met; a slice's spare places count too). A statement '..UptoSaid' is the law's where the arguments, and the package variables that the reading takes, are together of bulk at most 1048576: NARROWER than '..Said'. Prove '..Said' where nothing that the law and all that it calls make is longer than what came in: it says more and counts as full. Else prove '..UptoSaid'. A law counts once. -/
mutual
def uptoBulk {H : Type} : DataW H → Nat
  | .lit (.string bytes) => bytes.length + 1
  | .lit _ => 1
  | .nil => 1
  | .ptr d => uptoBulk d + 1
  | .slice elems spare => uptoBulkAll elems + uptoBulkAll spare + 1
  | .agg parts => uptoBulkAll parts + 1
  | .iface _ d => uptoBulk d + 1
  | .map entries => uptoBulkEntries entries + 1
  | .held _ => 1
def uptoBulkAll {H : Type} : List (DataW H) → Nat
  | [] => 0
  | d :: r => uptoBulk d + uptoBulkAll r
def uptoBulkEntries {H : Type} : List (Lit × DataW H) → Nat
  | [] => 0
  | x :: r => uptoBulkEntry x + uptoBulkEntries r
def uptoBulkEntry {H : Type} : Lit × DataW H → Nat
  | (.string bytes, d) => bytes.length + uptoBulk d + 1
  | (_, d) => uptoBulk d + 1
 end
def uptoSmall : (H : Type) → List (DataW H) → Bool := fun _ ds => decide (uptoBulkAll ds ≤ 1048576)
def OpenSpec.upto (s : _root_.Go.ChangeSpec) : _root_.Go.OpenSpec := { _root_.Go.OpenSpec.ofChange s with cond := some uptoSmall }

/-- 'garretlaw06.TagTells', WHERE WHAT IT READS IS OF BULK AT MOST 1048576: true; the input reads as it did. -/
def tagTellsUptoRow : OpenClaim := { program := "ytfacmeblldljdaa", sum := "54f57fcf53af7f03b06ae27f0fb705000ed65bc94ccdb6f92bc534ebf9e29477", func := "garret/garretlaw06.TagTells", spec := "tagTells", apart := false, narrowed := true }
def TagTellsUptoSaid : Prop := tagTellsUptoRow.holds Try.pinned (OpenSpec.upto tagTellsSpec)

/-- 'garretlaw06.TagBack', WHERE WHAT IT READS IS OF BULK AT MOST 1048576: true; the input reads as it did. -/
def tagBackUptoRow : OpenClaim := { program := "ytfacmeblldljdaa", sum := "54f57fcf53af7f03b06ae27f0fb705000ed65bc94ccdb6f92bc534ebf9e29477", func := "garret/garretlaw06.TagBack", spec := "tagBack", apart := false, narrowed := true }
def TagBackUptoSaid : Prop := tagBackUptoRow.holds Try.pinned (OpenSpec.upto tagBackSpec)

/-- 'garretlaw06.TagBounds', WHERE WHAT IT READS IS OF BULK AT MOST 1048576: true; the input reads as it did. -/
def tagBoundsUptoRow : OpenClaim := { program := "ytfacmeblldljdaa", sum := "54f57fcf53af7f03b06ae27f0fb705000ed65bc94ccdb6f92bc534ebf9e29477", func := "garret/garretlaw06.TagBounds", spec := "tagBounds", apart := false, narrowed := true }
def TagBoundsUptoSaid : Prop := tagBoundsUptoRow.holds Try.pinned (OpenSpec.upto tagBoundsSpec)

/-- 'garretlaw06.TagEach', WHERE WHAT IT READS IS OF BULK AT MOST 1048576: true; the input reads as it did. -/
def tagEachUptoRow : OpenClaim := { program := "ytfacmeblldljdaa", sum := "54f57fcf53af7f03b06ae27f0fb705000ed65bc94ccdb6f92bc534ebf9e29477", func := "garret/garretlaw06.TagEach", spec := "tagEach", apart := false, narrowed := true }
def TagEachUptoSaid : Prop := tagEachUptoRow.holds Try.pinned (OpenSpec.upto tagEachSpec)

end Rows
end Go.Proofs.Ytfacmeblldljdaa
