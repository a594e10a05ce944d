/-
  No cell of these rows narrows 'for every input' (looked for: loops, veiled, ifaces, maps, wideKeys, modest, calm, conditions, laid).
  DERIVED. THE GIVEN ROWS OF THIS SEAT. 4 by the template 'for every input the law returns true; each argument reads behind the call as it read before'; 0 by the template 'total and deterministic' (their statements: YtgkgbbffgcmekaaTotals.lean).
  GIVEN WITH THE SEED: the statements are not yours to turn. If you find one false, say at which input.
  Laid BY PROGRAM, IN A SANDBOX (cutbox-rows.mjs): the forced cells as the released guide's own fill.sh prints them over the translation aa884b4c294b0cfb… (all of the seat's roots in one cut). By AI agents, Wed Nov 11 2026. No macro, syntax, notation, axiom, sorry.
-/
import Derived.Test.YtgkgbbffgcmekaaChecked
import GoSem.Claim
import GoSem.ClaimJoined
import GoSem.ClaimMapViews
import Derived.JoinedTies
import Derived.KernelRfl
namespace Go.Proofs.Ytgkgbbffgcmekaa
/- THE CELL 'sum', in the pinned program and in every row, IS THE sha256 OF THE DUMP (.gsa) THAT YtgkgbbffgcmekaaProg.lean LOADS. Nothing in Lean hashes anything: it is a label: what it is worth is what the hold of that sum in a sandbox is worth. -/
noncomputable def Try.pinned : Pinned := { name := "ytgkgbbffgcmekaa", sum := "aa884b4c294b0cfbe2f95a74f9fce463c2e412e904bb6dfb2795e4c2fbff6a63", checked := Try.checked }
namespace Rows
def none {H : Type} : Left H := { results := [], args := [] }

/-- 'garretlaw08.HalfPlays': WHATEVER THE INPUT: true; the input reads as it did. -/
def halfPlaysSpec : ChangeSpec := { name := "halfPlays", fn := fun _ => fun
  | [d1, d2] => { results := [.lit (.bool true)], args := [d1, d2] }
  | _ => none }
def halfPlaysRow : OpenClaim := { program := "ytgkgbbffgcmekaa", sum := "aa884b4c294b0cfbe2f95a74f9fce463c2e412e904bb6dfb2795e4c2fbff6a63", func := "garret/garretlaw08.HalfPlays", spec := "halfPlays", plainKeys := false, apart := false }
def HalfPlaysSaid : Prop := halfPlaysRow.holds Try.pinned (OpenSpec.ofChange halfPlaysSpec)

/-- ITS FALSE NEIGHBOUR: 'it returns false'. Refute it at one input. -/
def halfPlaysWrong : ChangeSpec := { name := "halfPlays", fn := fun _ => fun
  | [d1, d2] => { results := [.lit (.bool false)], args := [d1, d2] }
  | _ => none }
def HalfPlaysWrongFalsely : Prop := halfPlaysRow.holds Try.pinned (OpenSpec.ofChange halfPlaysWrong)

/-- 'garretlaw08.HalfCounts': WHATEVER THE INPUT: true; the input reads as it did. -/
def halfCountsSpec : ChangeSpec := { name := "halfCounts", fn := fun _ => fun
  | [d1, d2, d3, d4, d5] => { results := [.lit (.bool true)], args := [d1, d2, d3, d4, d5] }
  | _ => none }
def halfCountsRow : OpenClaim := { program := "ytgkgbbffgcmekaa", sum := "aa884b4c294b0cfbe2f95a74f9fce463c2e412e904bb6dfb2795e4c2fbff6a63", func := "garret/garretlaw08.HalfCounts", spec := "halfCounts", unfollowed := true, recurses := true, plainKeys := false, apart := false }
def HalfCountsSaid : Prop := halfCountsRow.holds Try.pinned (OpenSpec.ofChange halfCountsSpec)

/-- ITS FALSE NEIGHBOUR: 'it returns false'. Refute it at one input. -/
def halfCountsWrong : ChangeSpec := { name := "halfCounts", fn := fun _ => fun
  | [d1, d2, d3, d4, d5] => { results := [.lit (.bool false)], args := [d1, d2, d3, d4, d5] }
  | _ => none }
def HalfCountsWrongFalsely : Prop := halfCountsRow.holds Try.pinned (OpenSpec.ofChange halfCountsWrong)

/-- 'garretlaw08.HalfRoom': WHATEVER THE INPUT: true; the input reads as it did. -/
def halfRoomSpec : ChangeSpec := { name := "halfRoom", fn := fun _ => fun
  | [d1, d2, d3] => { results := [.lit (.bool true)], args := [d1, d2, d3] }
  | _ => none }
def halfRoomRow : OpenClaim := { program := "ytgkgbbffgcmekaa", sum := "aa884b4c294b0cfbe2f95a74f9fce463c2e412e904bb6dfb2795e4c2fbff6a63", func := "garret/garretlaw08.HalfRoom", spec := "halfRoom", plainKeys := false, apart := false }
def HalfRoomSaid : Prop := halfRoomRow.holds Try.pinned (OpenSpec.ofChange halfRoomSpec)

/-- ITS FALSE NEIGHBOUR: 'it returns false'. Refute it at one input. -/
def halfRoomWrong : ChangeSpec := { name := "halfRoom", fn := fun _ => fun
  | [d1, d2, d3] => { results := [.lit (.bool false)], args := [d1, d2, d3] }
  | _ => none }
def HalfRoomWrongFalsely : Prop := halfRoomRow.holds Try.pinned (OpenSpec.ofChange halfRoomWrong)

/-- 'garretlaw08.HalfWipes': WHATEVER THE INPUT: true; the input reads as it did. -/
def halfWipesSpec : ChangeSpec := { name := "halfWipes", fn := fun _ => fun
  | [d1, d2, d3, d4, d5, d6] => { results := [.lit (.bool true)], args := [d1, d2, d3, d4, d5, d6] }
  | _ => none }
def halfWipesRow : OpenClaim := { program := "ytgkgbbffgcmekaa", sum := "aa884b4c294b0cfbe2f95a74f9fce463c2e412e904bb6dfb2795e4c2fbff6a63", func := "garret/garretlaw08.HalfWipes", spec := "halfWipes", plainKeys := false, apart := false }
def HalfWipesSaid : Prop := halfWipesRow.holds Try.pinned (OpenSpec.ofChange halfWipesSpec)

/-- ITS FALSE NEIGHBOUR: 'it returns false'. Refute it at one input. -/
def halfWipesWrong : ChangeSpec := { name := "halfWipes", fn := fun _ => fun
  | [d1, d2, d3, d4, d5, d6] => { results := [.lit (.bool false)], args := [d1, d2, d3, d4, d5, d6] }
  | _ => none }
def HalfWipesWrongFalsely : Prop := halfWipesRow.holds Try.pinned (OpenSpec.ofChange halfWipesWrong)

/- THE SECOND FORM. 'bulk': how many values and letters a reading holds, each counted each time it is reached (what is shared counts as often as it is met; a slice's spare places count too). A statement '..UptoSaid' is the law's where the arguments, and the package variables that the reading takes, are together of bulk at most 1048576: NARROWER than '..Said'. Prove '..Said' where nothing that the law and all that it calls make is longer than what came in: it says more and counts as full. Else prove '..UptoSaid'. A law counts once. -/
mutual
def uptoBulk {H : Type} : DataW H → Nat
  | .lit (.string bytes) => bytes.length + 1
  | .lit _ => 1
  | .nil => 1
  | .ptr d => uptoBulk d + 1
  | .slice elems spare => uptoBulkAll elems + uptoBulkAll spare + 1
  | .agg parts => uptoBulkAll parts + 1
  | .iface _ d => uptoBulk d + 1
  | .map entries => uptoBulkEntries entries + 1
  | .held _ => 1
def uptoBulkAll {H : Type} : List (DataW H) → Nat
  | [] => 0
  | d :: r => uptoBulk d + uptoBulkAll r
def uptoBulkEntries {H : Type} : List (Lit × DataW H) → Nat
  | [] => 0
  | x :: r => uptoBulkEntry x + uptoBulkEntries r
def uptoBulkEntry {H : Type} : Lit × DataW H → Nat
  | (.string bytes, d) => bytes.length + uptoBulk d + 1
  | (_, d) => uptoBulk d + 1
 end
def uptoSmall : (H : Type) → List (DataW H) → Bool := fun _ ds => decide (uptoBulkAll ds ≤ 1048576)
def OpenSpec.upto (s : _root_.Go.ChangeSpec) : _root_.Go.OpenSpec := { _root_.Go.OpenSpec.ofChange s with cond := some uptoSmall }

/-- 'garretlaw08.HalfPlays', WHERE WHAT IT READS IS OF BULK AT MOST 1048576: true; the input reads as it did. -/
def halfPlaysUptoRow : OpenClaim := { program := "ytgkgbbffgcmekaa", sum := "aa884b4c294b0cfbe2f95a74f9fce463c2e412e904bb6dfb2795e4c2fbff6a63", func := "garret/garretlaw08.HalfPlays", spec := "halfPlays", plainKeys := false, apart := false, narrowed := true }
def HalfPlaysUptoSaid : Prop := halfPlaysUptoRow.holds Try.pinned (OpenSpec.upto halfPlaysSpec)

/-- 'garretlaw08.HalfCounts', WHERE WHAT IT READS IS OF BULK AT MOST 1048576: true; the input reads as it did. -/
def halfCountsUptoRow : OpenClaim := { program := "ytgkgbbffgcmekaa", sum := "aa884b4c294b0cfbe2f95a74f9fce463c2e412e904bb6dfb2795e4c2fbff6a63", func := "garret/garretlaw08.HalfCounts", spec := "halfCounts", unfollowed := true, recurses := true, plainKeys := false, apart := false, narrowed := true }
def HalfCountsUptoSaid : Prop := halfCountsUptoRow.holds Try.pinned (OpenSpec.upto halfCountsSpec)

/-- 'garretlaw08.HalfRoom', WHERE WHAT IT READS IS OF BULK AT MOST 1048576: true; the input reads as it did. -/
def halfRoomUptoRow : OpenClaim := { program := "ytgkgbbffgcmekaa", sum := "aa884b4c294b0cfbe2f95a74f9fce463c2e412e904bb6dfb2795e4c2fbff6a63", func := "garret/garretlaw08.HalfRoom", spec := "halfRoom", plainKeys := false, apart := false, narrowed := true }
def HalfRoomUptoSaid : Prop := halfRoomUptoRow.holds Try.pinned (OpenSpec.upto halfRoomSpec)

/-- 'garretlaw08.HalfWipes', WHERE WHAT IT READS IS OF BULK AT MOST 1048576: true; the input reads as it did. -/
def halfWipesUptoRow : OpenClaim := { program := "ytgkgbbffgcmekaa", sum := "aa884b4c294b0cfbe2f95a74f9fce463c2e412e904bb6dfb2795e4c2fbff6a63", func := "garret/garretlaw08.HalfWipes", spec := "halfWipes", plainKeys := false, apart := false, narrowed := true }
def HalfWipesUptoSaid : Prop := halfWipesUptoRow.holds Try.pinned (OpenSpec.upto halfWipesSpec)

end Rows
end Go.Proofs.Ytgkgbbffgcmekaa
