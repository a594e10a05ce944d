/-
  Inodes, as plain data: what is right, the stat, a new one.
-/
import Derived.Test.YtgkmgpjhpplkiaaEntP
import Derived.Test.YtgkmgpjhpplkiaaRunsP
namespace Go.Proofs.Ytgkmgpjhpplkiaa
set_option linter.unusedVariables false

structure Ino where
  no : Int
  kind : Int
  links : Int
  size : Int
  t : ByteArray
  es : List En
  rs : List Rn

def rightT (s : List UInt8) : Bool := (decide (1 ≤ s.length) && decide (s.length ≤ 200)) && !s.contains 0
def rightFile (x : Ino) : Bool := decide (0 ≤ x.size) && (decide (x.size ≤ 16384) && (rightS x.rs && (decide (bl x.t = []) && decide (x.es.length = 0))))
def rightDir (x : Ino) : Bool := decide (x.size = 0) && (rightE x.es && (decide (bl x.t = []) && decide (x.rs.length = 0)))
def rightLink (x : Ino) : Bool := rightT (bl x.t) && (decide (x.size = ((bl x.t).length : Int)) && (decide (x.es.length = 0) && decide (x.rs.length = 0)))
def rightKind (x : Ino) : Bool := if x.kind = 1 then rightFile x else if x.kind = 2 then rightDir x else if x.kind = 3 then rightLink x else false
def rightI (x : Ino) : Bool := decide (0 < x.no) && (decide (0 ≤ x.links) && (decide (x.links ≤ 100) && rightKind x))
def newI (no kind : Int) (t : ByteArray) : Ino :=
  { no := no, kind := kind, links := if kind = 2 then 2 else 1, size := if kind = 3 then (t.size : Int) else 0, t := if kind = 3 then t else ByteArray.empty, es := [], rs := [] }
def statSize (x : Ino) : Int := if x.kind = 2 then (x.es.length : Int) else x.size
def pagesOf (x : Ino) : Int := if rightS x.rs then cntS x.rs else 0

theorem rightKind_bad {x : Ino} (h1 : x.kind ≠ 1) (h2 : x.kind ≠ 2) (h3 : x.kind ≠ 3) : rightKind x = false := by simp [rightKind, h1, h2, h3]
theorem rightI_bad {x : Ino} (h1 : x.kind ≠ 1) (h2 : x.kind ≠ 2) (h3 : x.kind ≠ 3) : rightI x = false := by simp [rightI, rightKind_bad h1 h2 h3]
theorem rightT_nil : rightT [] = false := rfl
end Go.Proofs.Ytgkmgpjhpplkiaa
