/-
  No cell of these rows narrows 'for every input' (looked for: loops, veiled, ifaces, maps, wideKeys, modest, calm, conditions, laid).
  DERIVED. THE GIVEN ROWS OF THIS SEAT. 4 by the template 'for every input the law returns true; each argument reads behind the call as it read before'; 0 by the template 'total and deterministic' (their statements: YtnlfhapnclfonaaTotals.lean).
  GIVEN WITH THE SEED: the statements are not yours to turn. If you find one false, say at which input.
  Laid BY PROGRAM, IN A SANDBOX (cutbox-rows.mjs): the forced cells as the released guide's own fill.sh prints them over the translation c620146e4573ac0c… (all of the seat's roots in one cut). By AI agents, Wed Nov 11 2026. No macro, syntax, notation, axiom, sorry.
-/
import Derived.Test.YtnlfhapnclfonaaChecked
import GoSem.Claim
import GoSem.ClaimJoined
import GoSem.ClaimMapViews
import Derived.JoinedTies
import Derived.KernelRfl
namespace Go.Proofs.Ytnlfhapnclfonaa
/- THE CELL 'sum', in the pinned program and in every row, IS THE sha256 OF THE DUMP (.gsa) THAT YtnlfhapnclfonaaProg.lean LOADS. Nothing in Lean hashes anything: it is a label: what it is worth is what the hold of that sum in a sandbox is worth. -/
noncomputable def Try.pinned : Pinned := { name := "ytnlfhapnclfonaa", sum := "c620146e4573ac0c62d2c5e3512834b0a0d2feabb31e4b41f5c7e00d3ac7a257", checked := Try.checked }
namespace Rows
def none {H : Type} : Left H := { results := [], args := [] }

/-- 'garretlaw04.NorPlays': WHATEVER THE INPUT: true; the input reads as it did. -/
def norPlaysSpec : ChangeSpec := { name := "norPlays", fn := fun _ => fun
  | [d1, d2] => { results := [.lit (.bool true)], args := [d1, d2] }
  | _ => none }
def norPlaysRow : OpenClaim := { program := "ytnlfhapnclfonaa", sum := "c620146e4573ac0c62d2c5e3512834b0a0d2feabb31e4b41f5c7e00d3ac7a257", func := "garret/garretlaw04.NorPlays", spec := "norPlays", unfollowed := true, recurses := true, plainKeys := false, apart := false }
def NorPlaysSaid : Prop := norPlaysRow.holds Try.pinned (OpenSpec.ofChange norPlaysSpec)

/-- ITS FALSE NEIGHBOUR: 'it returns false'. Refute it at one input. -/
def norPlaysWrong : ChangeSpec := { name := "norPlays", fn := fun _ => fun
  | [d1, d2] => { results := [.lit (.bool false)], args := [d1, d2] }
  | _ => none }
def NorPlaysWrongFalsely : Prop := norPlaysRow.holds Try.pinned (OpenSpec.ofChange norPlaysWrong)

/-- 'garretlaw04.NorBits': WHATEVER THE INPUT: true; the input reads as it did. -/
def norBitsSpec : ChangeSpec := { name := "norBits", fn := fun _ => fun
  | [d1, d2, d3, d4] => { results := [.lit (.bool true)], args := [d1, d2, d3, d4] }
  | _ => none }
def norBitsRow : OpenClaim := { program := "ytnlfhapnclfonaa", sum := "c620146e4573ac0c62d2c5e3512834b0a0d2feabb31e4b41f5c7e00d3ac7a257", func := "garret/garretlaw04.NorBits", spec := "norBits", plainKeys := false, apart := false }
def NorBitsSaid : Prop := norBitsRow.holds Try.pinned (OpenSpec.ofChange norBitsSpec)

/-- ITS FALSE NEIGHBOUR: 'it returns false'. Refute it at one input. -/
def norBitsWrong : ChangeSpec := { name := "norBits", fn := fun _ => fun
  | [d1, d2, d3, d4] => { results := [.lit (.bool false)], args := [d1, d2, d3, d4] }
  | _ => none }
def NorBitsWrongFalsely : Prop := norBitsRow.holds Try.pinned (OpenSpec.ofChange norBitsWrong)

/-- 'garretlaw04.NorRight': WHATEVER THE INPUT: true; the input reads as it did. -/
def norRightSpec : ChangeSpec := { name := "norRight", fn := fun _ => fun
  | [d1, d2] => { results := [.lit (.bool true)], args := [d1, d2] }
  | _ => none }
def norRightRow : OpenClaim := { program := "ytnlfhapnclfonaa", sum := "c620146e4573ac0c62d2c5e3512834b0a0d2feabb31e4b41f5c7e00d3ac7a257", func := "garret/garretlaw04.NorRight", spec := "norRight", plainKeys := false, apart := false }
def NorRightSaid : Prop := norRightRow.holds Try.pinned (OpenSpec.ofChange norRightSpec)

/-- ITS FALSE NEIGHBOUR: 'it returns false'. Refute it at one input. -/
def norRightWrong : ChangeSpec := { name := "norRight", fn := fun _ => fun
  | [d1, d2] => { results := [.lit (.bool false)], args := [d1, d2] }
  | _ => none }
def NorRightWrongFalsely : Prop := norRightRow.holds Try.pinned (OpenSpec.ofChange norRightWrong)

/-- 'garretlaw04.NorTorn': WHATEVER THE INPUT: true; the input reads as it did. -/
def norTornSpec : ChangeSpec := { name := "norTorn", fn := fun _ => fun
  | [d1, d2, d3, d4] => { results := [.lit (.bool true)], args := [d1, d2, d3, d4] }
  | _ => none }
def norTornRow : OpenClaim := { program := "ytnlfhapnclfonaa", sum := "c620146e4573ac0c62d2c5e3512834b0a0d2feabb31e4b41f5c7e00d3ac7a257", func := "garret/garretlaw04.NorTorn", spec := "norTorn", plainKeys := false, apart := false }
def NorTornSaid : Prop := norTornRow.holds Try.pinned (OpenSpec.ofChange norTornSpec)

/-- ITS FALSE NEIGHBOUR: 'it returns false'. Refute it at one input. -/
def norTornWrong : ChangeSpec := { name := "norTorn", fn := fun _ => fun
  | [d1, d2, d3, d4] => { results := [.lit (.bool false)], args := [d1, d2, d3, d4] }
  | _ => none }
def NorTornWrongFalsely : Prop := norTornRow.holds Try.pinned (OpenSpec.ofChange norTornWrong)

/- THE SECOND FORM. 'bulk': how many values and letters a reading holds, each counted each time it is reached (what is shared counts as often as it is met; a slice's spare places count too). A statement '..UptoSaid' is the law's where the arguments, and the package variables that the reading takes, are together of bulk at most 1048576: NARROWER than '..Said'. Prove '..Said' where nothing that the law and all that it calls make is longer than what came in: it says more and counts as full. Else prove '..UptoSaid'. A law counts once. -/
mutual
def uptoBulk {H : Type} : DataW H → Nat
  | .lit (.string bytes) => bytes.length + 1
  | .lit _ => 1
  | .nil => 1
  | .ptr d => uptoBulk d + 1
  | .slice elems spare => uptoBulkAll elems + uptoBulkAll spare + 1
  | .agg parts => uptoBulkAll parts + 1
  | .iface _ d => uptoBulk d + 1
  | .map entries => uptoBulkEntries entries + 1
  | .held _ => 1
def uptoBulkAll {H : Type} : List (DataW H) → Nat
  | [] => 0
  | d :: r => uptoBulk d + uptoBulkAll r
def uptoBulkEntries {H : Type} : List (Lit × DataW H) → Nat
  | [] => 0
  | x :: r => uptoBulkEntry x + uptoBulkEntries r
def uptoBulkEntry {H : Type} : Lit × DataW H → Nat
  | (.string bytes, d) => bytes.length + uptoBulk d + 1
  | (_, d) => uptoBulk d + 1
 end
def uptoSmall : (H : Type) → List (DataW H) → Bool := fun _ ds => decide (uptoBulkAll ds ≤ 1048576)
def OpenSpec.upto (s : _root_.Go.ChangeSpec) : _root_.Go.OpenSpec := { _root_.Go.OpenSpec.ofChange s with cond := some uptoSmall }

/-- 'garretlaw04.NorPlays', WHERE WHAT IT READS IS OF BULK AT MOST 1048576: true; the input reads as it did. -/
def norPlaysUptoRow : OpenClaim := { program := "ytnlfhapnclfonaa", sum := "c620146e4573ac0c62d2c5e3512834b0a0d2feabb31e4b41f5c7e00d3ac7a257", func := "garret/garretlaw04.NorPlays", spec := "norPlays", unfollowed := true, recurses := true, plainKeys := false, apart := false, narrowed := true }
def NorPlaysUptoSaid : Prop := norPlaysUptoRow.holds Try.pinned (OpenSpec.upto norPlaysSpec)

/-- 'garretlaw04.NorBits', WHERE WHAT IT READS IS OF BULK AT MOST 1048576: true; the input reads as it did. -/
def norBitsUptoRow : OpenClaim := { program := "ytnlfhapnclfonaa", sum := "c620146e4573ac0c62d2c5e3512834b0a0d2feabb31e4b41f5c7e00d3ac7a257", func := "garret/garretlaw04.NorBits", spec := "norBits", plainKeys := false, apart := false, narrowed := true }
def NorBitsUptoSaid : Prop := norBitsUptoRow.holds Try.pinned (OpenSpec.upto norBitsSpec)

/-- 'garretlaw04.NorRight', WHERE WHAT IT READS IS OF BULK AT MOST 1048576: true; the input reads as it did. -/
def norRightUptoRow : OpenClaim := { program := "ytnlfhapnclfonaa", sum := "c620146e4573ac0c62d2c5e3512834b0a0d2feabb31e4b41f5c7e00d3ac7a257", func := "garret/garretlaw04.NorRight", spec := "norRight", plainKeys := false, apart := false, narrowed := true }
def NorRightUptoSaid : Prop := norRightUptoRow.holds Try.pinned (OpenSpec.upto norRightSpec)

/-- 'garretlaw04.NorTorn', WHERE WHAT IT READS IS OF BULK AT MOST 1048576: true; the input reads as it did. -/
def norTornUptoRow : OpenClaim := { program := "ytnlfhapnclfonaa", sum := "c620146e4573ac0c62d2c5e3512834b0a0d2feabb31e4b41f5c7e00d3ac7a257", func := "garret/garretlaw04.NorTorn", spec := "norTorn", plainKeys := false, apart := false, narrowed := true }
def NorTornUptoSaid : Prop := norTornUptoRow.holds Try.pinned (OpenSpec.upto norTornSpec)

end Rows
end Go.Proofs.Ytnlfhapnclfonaa
