/-
  Plain mathematics of tags: what Write puts, what Read answers. No program is named here.
-/
import Derived.Test.YtfacmeblldljdaaCodecB
import Derived.Test.YtfacmeblldljdaaSumA
import Derived.Test.YtfacmeblldljdaaBlk
namespace Go.Proofs.Ytfacmeblldljdaa
open Go.RowKit
set_option linter.unusedVariables false

/-- A tag's cells. -/
def tcells (a b s : Int) : Array Value := #[.int .i64 a, .int .i64 b, .int .u32 s]
/-- May a tag name it? -/
def inNum (v : Int) : Bool := decide (0 ≤ v ∧ v ≤ 2147483647)
/-- The twelve bytes ahead of the sum. -/
def tag12 (a b s : Int) : List Int := low a 4 ++ low b 4 ++ low s 4
def tagW (a b s : Int) : List Int := tag12 a b s ++ low (sumS (tag12 a b s)) 4
def writeS (a b s : Int) : List Int × Int := if inNum a && inNum b then (tagW a b s, 0) else ([], 1)
/-- What Read answers: No, Index, Sum, the error. -/
def readS (xs : List Int) : (Int × Int × Int) × Int :=
  if xs.length ≠ 16 then ((0, 0, 0), 3)
  else if sumS (xs.take 12) ≠ (getS xs 12 4).1 then ((0, 0, 0), 4)
  else if 2147483647 < (getS xs 0 4).1 ∨ 2147483647 < (getS xs 4 4).1 then ((0, 0, 0), 1)
  else (((getS xs 0 4).1, (getS xs 4 4).1, (getS xs 8 4).1), 0)

theorem tag12_length (a b s : Int) : (tag12 a b s).length = 12 := by simp [tag12, low_length]
theorem tagW_length (a b s : Int) : (tagW a b s).length = 16 := by simp [tagW, low_length, tag12_length]

theorem results_cell_tmp_row {P : Program} {fn : Func} {p u : Tmp} {ty : TypeId} (h : fn.results = #[.cell p ty, .tmp u]) (tmps : Array Value) (w : World) (g : Nat) (t : TypeId) (cs : Array Value) (fr : Nat × Nat) (d : TypeDesc)
    (hp : tmps.getD p undef = .pointer (some ⟨g, 0, none⟩)) (hg : w.heap[g]? = some (.cells cs t fr))
    (hu : P.underlying ty = some d) (hd : (match d with | .struct _ | .array _ _ => true | _ => false) = true) (hi : (P.info? ty).map (·.size) = some cs.size) :
    (results fn tmps).run P w = .ok (.tuple #[.agg cs, tmps.getD u undef]) w := by
  rw [results_cell_tmp h, hp]
  simp [asAddr, Result.andThen, run_loadVar_row w g t ty cs fr d hg hu hd hi]
end Go.Proofs.Ytfacmeblldljdaa
