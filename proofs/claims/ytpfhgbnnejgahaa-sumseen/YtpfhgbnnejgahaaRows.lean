/-
  No cell of these rows narrows 'for every input' (looked for: loops, veiled, ifaces, maps, wideKeys, modest, calm, conditions, laid).
  DERIVED. THE GIVEN ROWS OF THIS SEAT. 4 by the template 'for every input the law returns true; each argument reads behind the call as it read before'; 0 by the template 'total and deterministic' (their statements: YtpfhgbnnejgahaaTotals.lean).
  GIVEN WITH THE SEED: the statements are not yours to turn. If you find one false, say at which input.
  Laid BY PROGRAM, IN A SANDBOX (cutbox-rows.mjs): the forced cells as the released guide's own fill.sh prints them over the translation 62241222b3b27cac… (all of the seat's roots in one cut). By AI agents, Wed Nov 11 2026. No macro, syntax, notation, axiom, sorry.
-/
import Derived.Test.YtpfhgbnnejgahaaChecked
import GoSem.Claim
import GoSem.ClaimJoined
import GoSem.ClaimMapViews
import Derived.JoinedTies
import Derived.KernelRfl
namespace Go.Proofs.Ytpfhgbnnejgahaa
/- THE CELL 'sum', in the pinned program and in every row, IS THE sha256 OF THE DUMP (.gsa) THAT YtpfhgbnnejgahaaProg.lean LOADS. Nothing in Lean hashes anything: it is a label: what it is worth is what the hold of that sum in a sandbox is worth. -/
noncomputable def Try.pinned : Pinned := { name := "ytpfhgbnnejgahaa", sum := "62241222b3b27cacb16fdcfc12d5a81479aa7e465fdd10040576117c6e55cad7", checked := Try.checked }
namespace Rows
def none {H : Type} : Left H := { results := [], args := [] }

/-- 'garretlaw02.SumTells': WHATEVER THE INPUT: true; the input reads as it did. -/
def sumTellsSpec : ChangeSpec := { name := "sumTells", fn := fun _ => fun
  | [d1, d2] => { results := [.lit (.bool true)], args := [d1, d2] }
  | _ => none }
def sumTellsRow : OpenClaim := { program := "ytpfhgbnnejgahaa", sum := "62241222b3b27cacb16fdcfc12d5a81479aa7e465fdd10040576117c6e55cad7", func := "garret/garretlaw02.SumTells", spec := "sumTells", apart := false }
def SumTellsSaid : Prop := sumTellsRow.holds Try.pinned (OpenSpec.ofChange sumTellsSpec)

/-- ITS FALSE NEIGHBOUR: 'it returns false'. Refute it at one input. -/
def sumTellsWrong : ChangeSpec := { name := "sumTells", fn := fun _ => fun
  | [d1, d2] => { results := [.lit (.bool false)], args := [d1, d2] }
  | _ => none }
def SumTellsWrongFalsely : Prop := sumTellsRow.holds Try.pinned (OpenSpec.ofChange sumTellsWrong)

/-- 'garretlaw02.SumSeen': WHATEVER THE INPUT: true; the input reads as it did. -/
def sumSeenSpec : ChangeSpec := { name := "sumSeen", fn := fun _ => fun
  | [d1, d2, d3, d4] => { results := [.lit (.bool true)], args := [d1, d2, d3, d4] }
  | _ => none }
def sumSeenRow : OpenClaim := { program := "ytpfhgbnnejgahaa", sum := "62241222b3b27cacb16fdcfc12d5a81479aa7e465fdd10040576117c6e55cad7", func := "garret/garretlaw02.SumSeen", spec := "sumSeen", apart := false }
def SumSeenSaid : Prop := sumSeenRow.holds Try.pinned (OpenSpec.ofChange sumSeenSpec)

/-- ITS FALSE NEIGHBOUR: 'it returns false'. Refute it at one input. -/
def sumSeenWrong : ChangeSpec := { name := "sumSeen", fn := fun _ => fun
  | [d1, d2, d3, d4] => { results := [.lit (.bool false)], args := [d1, d2, d3, d4] }
  | _ => none }
def SumSeenWrongFalsely : Prop := sumSeenRow.holds Try.pinned (OpenSpec.ofChange sumSeenWrong)

/-- 'garretlaw02.SumParts': WHATEVER THE INPUT: true; the input reads as it did. -/
def sumPartsSpec : ChangeSpec := { name := "sumParts", fn := fun _ => fun
  | [d1, d2] => { results := [.lit (.bool true)], args := [d1, d2] }
  | _ => none }
def sumPartsRow : OpenClaim := { program := "ytpfhgbnnejgahaa", sum := "62241222b3b27cacb16fdcfc12d5a81479aa7e465fdd10040576117c6e55cad7", func := "garret/garretlaw02.SumParts", spec := "sumParts", apart := false }
def SumPartsSaid : Prop := sumPartsRow.holds Try.pinned (OpenSpec.ofChange sumPartsSpec)

/-- ITS FALSE NEIGHBOUR: 'it returns false'. Refute it at one input. -/
def sumPartsWrong : ChangeSpec := { name := "sumParts", fn := fun _ => fun
  | [d1, d2] => { results := [.lit (.bool false)], args := [d1, d2] }
  | _ => none }
def SumPartsWrongFalsely : Prop := sumPartsRow.holds Try.pinned (OpenSpec.ofChange sumPartsWrong)

/-- 'garretlaw02.SumEach': WHATEVER THE INPUT: true; the input reads as it did. -/
def sumEachSpec : ChangeSpec := { name := "sumEach", fn := fun _ => fun
  | [d1, d2] => { results := [.lit (.bool true)], args := [d1, d2] }
  | _ => none }
def sumEachRow : OpenClaim := { program := "ytpfhgbnnejgahaa", sum := "62241222b3b27cacb16fdcfc12d5a81479aa7e465fdd10040576117c6e55cad7", func := "garret/garretlaw02.SumEach", spec := "sumEach", apart := false }
def SumEachSaid : Prop := sumEachRow.holds Try.pinned (OpenSpec.ofChange sumEachSpec)

/-- ITS FALSE NEIGHBOUR: 'it returns false'. Refute it at one input. -/
def sumEachWrong : ChangeSpec := { name := "sumEach", fn := fun _ => fun
  | [d1, d2] => { results := [.lit (.bool false)], args := [d1, d2] }
  | _ => none }
def SumEachWrongFalsely : Prop := sumEachRow.holds Try.pinned (OpenSpec.ofChange sumEachWrong)

/- THE SECOND FORM. 'bulk': how many values and letters a reading holds, each counted each time it is reached (what is shared counts as often as it is met; a slice's spare places count too). A statement '..UptoSaid' is the law's where the arguments, and the package variables that the reading takes, are together of bulk at most 1048576: NARROWER than '..Said'. Prove '..Said' where nothing that the law and all that it calls make is longer than what came in: it says more and counts as full. Else prove '..UptoSaid'. A law counts once. -/
mutual
def uptoBulk {H : Type} : DataW H → Nat
  | .lit (.string bytes) => bytes.length + 1
  | .lit _ => 1
  | .nil => 1
  | .ptr d => uptoBulk d + 1
  | .slice elems spare => uptoBulkAll elems + uptoBulkAll spare + 1
  | .agg parts => uptoBulkAll parts + 1
  | .iface _ d => uptoBulk d + 1
  | .map entries => uptoBulkEntries entries + 1
  | .held _ => 1
def uptoBulkAll {H : Type} : List (DataW H) → Nat
  | [] => 0
  | d :: r => uptoBulk d + uptoBulkAll r
def uptoBulkEntries {H : Type} : List (Lit × DataW H) → Nat
  | [] => 0
  | x :: r => uptoBulkEntry x + uptoBulkEntries r
def uptoBulkEntry {H : Type} : Lit × DataW H → Nat
  | (.string bytes, d) => bytes.length + uptoBulk d + 1
  | (_, d) => uptoBulk d + 1
 end
def uptoSmall : (H : Type) → List (DataW H) → Bool := fun _ ds => decide (uptoBulkAll ds ≤ 1048576)
def OpenSpec.upto (s : _root_.Go.ChangeSpec) : _root_.Go.OpenSpec := { _root_.Go.OpenSpec.ofChange s with cond := some uptoSmall }

/-- 'garretlaw02.SumTells', WHERE WHAT IT READS IS OF BULK AT MOST 1048576: true; the input reads as it did. -/
def sumTellsUptoRow : OpenClaim := { program := "ytpfhgbnnejgahaa", sum := "62241222b3b27cacb16fdcfc12d5a81479aa7e465fdd10040576117c6e55cad7", func := "garret/garretlaw02.SumTells", spec := "sumTells", apart := false, narrowed := true }
def SumTellsUptoSaid : Prop := sumTellsUptoRow.holds Try.pinned (OpenSpec.upto sumTellsSpec)

/-- 'garretlaw02.SumSeen', WHERE WHAT IT READS IS OF BULK AT MOST 1048576: true; the input reads as it did. -/
def sumSeenUptoRow : OpenClaim := { program := "ytpfhgbnnejgahaa", sum := "62241222b3b27cacb16fdcfc12d5a81479aa7e465fdd10040576117c6e55cad7", func := "garret/garretlaw02.SumSeen", spec := "sumSeen", apart := false, narrowed := true }
def SumSeenUptoSaid : Prop := sumSeenUptoRow.holds Try.pinned (OpenSpec.upto sumSeenSpec)

/-- 'garretlaw02.SumParts', WHERE WHAT IT READS IS OF BULK AT MOST 1048576: true; the input reads as it did. -/
def sumPartsUptoRow : OpenClaim := { program := "ytpfhgbnnejgahaa", sum := "62241222b3b27cacb16fdcfc12d5a81479aa7e465fdd10040576117c6e55cad7", func := "garret/garretlaw02.SumParts", spec := "sumParts", apart := false, narrowed := true }
def SumPartsUptoSaid : Prop := sumPartsUptoRow.holds Try.pinned (OpenSpec.upto sumPartsSpec)

/-- 'garretlaw02.SumEach', WHERE WHAT IT READS IS OF BULK AT MOST 1048576: true; the input reads as it did. -/
def sumEachUptoRow : OpenClaim := { program := "ytpfhgbnnejgahaa", sum := "62241222b3b27cacb16fdcfc12d5a81479aa7e465fdd10040576117c6e55cad7", func := "garret/garretlaw02.SumEach", spec := "sumEach", apart := false, narrowed := true }
def SumEachUptoSaid : Prop := sumEachUptoRow.holds Try.pinned (OpenSpec.upto sumEachSpec)

end Rows
end Go.Proofs.Ytpfhgbnnejgahaa
