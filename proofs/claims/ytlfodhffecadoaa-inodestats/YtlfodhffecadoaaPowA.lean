/-
  The contracts of package power: what a power's block holds, and what each method makes of it.
-/
import Derived.Test.YtlfodhffecadoaaBlk
import Derived.Maps.OwnSet
import Derived.DeepKeys4
import Derived.BigRegion
namespace Go.Proofs.Ytlfodhffecadoaa
open Go.RowKit Go.Maps
set_option linter.unusedVariables false

/-- What a power is. -/
structure PSt where
  off : Bool
  armed : Bool
  left : Int
  mask : Int
  steps : Int
  fails : List Int

/-- One more step. -/
def PSt.step (S : PSt) : Bool × Bool × PSt :=
  if S.off then (false, false, S) else if S.armed && S.left == 0 then (false, true, { S with off := true })
  else (true, false, { S with left := if S.armed then S.left - 1 else S.left, steps := S.steps + 1 })
def PSt.cut (S : PSt) (left mask : Int) : PSt := { S with armed := decide (0 ≤ left), left := left, mask := mask }
def PSt.on (S : PSt) : PSt := { S with off := false, armed := false }
def PSt.failed (S : PSt) : Bool := !(S.steps == 0) && S.fails.contains (S.steps - 1)
def PSt.zero : PSt := ⟨false, false, 0, 0, 0, []⟩

/-- Its numbers are such that none goes round. -/
structure PSt.Ok (S : PSt) (n : Nat) : Prop where
  steps0 : 0 ≤ S.steps
  steps1 : S.steps ≤ n
  left0 : S.armed = true → 0 ≤ S.left
  left1 : (Lit.int .i64 S.left).wf = true
  mask : 0 ≤ S.mask ∧ S.mask < 256

def pcells (S : PSt) (mo : Option Nat) : Array Value := #[.bool S.off, .bool S.armed, .int .i64 S.left, .int .u8 S.mask, .int .i64 S.steps, .map mo]

/-- The key of a step's number. -/
def stepKey (a : Int) : Lit := .string (keyBytes [.int .i64 a])
theorem keyOf_one {P : Program} {k : TypeId} {f : Field} {q : IntKind} {n : Nat} (hk : P.underlying k = some (.struct #[f])) (ho : f.offset = 0) (hi : P.underlying f.type = some (.int q)) (hc : P.cellsOf k = 1) (hc1 : P.cellsOf f.type = 1)
    (hn : (f.name != "_") = true) (hkt : P.keyType k = true) (hsz : P.types.size = n + 1) (a : Int) (h : (Lit.int q a).wf = true) : keyOf P k (.agg #[.int q a]) = some (.string (keyBytes [.int q a])) := by
  have hf : (Value.agg #[.int q a]).formed P k = true := by simp [Value.formed, hk, hc]
  have h1 : P.keyLits (n + 1) f.type [.int q a] = some [.int q a] := by simp [Program.keyLits, hi, h]
  have h2 : P.keyLits (n + 2) k [.int q a] = some [.int q a] := by
    unfold Program.keyLits
    simp [hk, hc, hc1, ho, hn, h1]
  unfold keyOf
  simp [hk, hkt, hf, hsz, Value.cells, h2]

theorem of_wf_i64 {n : Int} (h : (Lit.int .i64 n).wf = true) : -9223372036854775808 ≤ n ∧ n < 9223372036854775808 := by
  simp [Lit.wf, IntKind.min, IntKind.max, IntKind.signed, IntKind.bits] at h; omega
theorem stepKey_isKey (l : List Int) : ∀ x ∈ l.map stepKey, WideAt.IsKeyLit x := by
  intro x hx
  obtain ⟨a, _, rfl⟩ := List.mem_map.1 hx
  trivial

theorem take_snocP {xs : List Int} {k : Nat} (h : k < xs.length) : xs.take (k + 1) = xs.take k ++ [xs.getD k 0] := by
  rw [List.take_succ_eq_append_getElem h]; simp [List.getD, List.getElem?_eq_getElem h]

end Go.Proofs.Ytlfodhffecadoaa
