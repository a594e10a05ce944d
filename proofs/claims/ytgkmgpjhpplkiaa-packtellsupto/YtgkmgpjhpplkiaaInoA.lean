/-
  Inodes: the map of forms, its look-up; forms.
-/
import Derived.BigRegion
import Derived.Test.YtgkmgpjhpplkiaaSays
import Derived.Test.YtgkmgpjhpplkiaaInoP
import Derived.Test.YtgkmgpjhpplkiaaKeyOne
import Derived.Test.YtgkmgpjhpplkiaaHoldL
namespace Go.Proofs.Ytgkmgpjhpplkiaa
open Go.RowKit Go.Maps
set_option linter.unusedVariables false
set_option maxRecDepth 100000

def asItI (v : Value) : Option (DataW Value × List MemPlace) := some (.held v, [])
def kindK (i : Int) : Lit := .string (keyBytes [.int .i64 i])
/-- The form of a kind. -/
def formV (own : Int) (f : FuncId) : Value := .agg #[.int .i64 own, .func (.func f) #[] #[]]
def noForm : Value := .agg #[.int .i64 0, .nilFunc]
def pickV (o : Option Value) (z : DataW Value) : DataW Value := match o with
  | some v => .held v
  | none => z
def updK (f : Int → Option Value) (k : Int) (v : Value) : Int → Option Value := fun i => if i = k then some v else f i
end Go.Proofs.Ytgkmgpjhpplkiaa
