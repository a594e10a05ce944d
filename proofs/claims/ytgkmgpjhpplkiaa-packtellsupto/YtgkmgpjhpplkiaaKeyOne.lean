/-
  What a struct of one integer reads as, as a key of a map.
-/
import Derived.Test.YtgkmgpjhpplkiaaBlk
import Derived.Maps.OwnSet
import Derived.DeepKeys4
import Derived.BigRegion
namespace Go.Proofs.Ytgkmgpjhpplkiaa
open Go.RowKit Go.Maps
set_option linter.unusedVariables false

theorem keyOf_one {P : Program} {k : TypeId} {f : Field} {q : IntKind} {n : Nat} (hk : P.underlying k = some (.struct #[f])) (ho : f.offset = 0) (hi : P.underlying f.type = some (.int q)) (hc : P.cellsOf k = 1) (hc1 : P.cellsOf f.type = 1)
    (hn : (f.name != "_") = true) (hkt : P.keyType k = true) (hsz : P.types.size = n + 1) (a : Int) (h : (Lit.int q a).wf = true) : keyOf P k (.agg #[.int q a]) = some (.string (keyBytes [.int q a])) := by
  have hf : (Value.agg #[.int q a]).formed P k = true := by simp [Value.formed, hk, hc]
  have h1 : P.keyLits (n + 1) f.type [.int q a] = some [.int q a] := by simp [Program.keyLits, hi, h]
  have h2 : P.keyLits (n + 2) k [.int q a] = some [.int q a] := by
    unfold Program.keyLits
    simp [hk, hc, hc1, ho, hn, h1]
  unfold keyOf
  simp [hk, hkt, hf, hsz, Value.cells, h2]

end Go.Proofs.Ytgkmgpjhpplkiaa
