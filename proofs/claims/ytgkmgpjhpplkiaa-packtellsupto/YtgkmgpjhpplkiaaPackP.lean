/-
  Deeds as bytes, as plain data: what is packed; what reading a number, a text, an inode, deeds tells.
-/
import Derived.Test.YtgkmgpjhpplkiaaPlain
import Derived.Test.YtgkmgpjhpplkiaaInoP
import Derived.Test.YtgkmgpjhpplkiaaCodecB
namespace Go.Proofs.Ytgkmgpjhpplkiaa
open Go.RowKit
set_option linter.unusedVariables false

/-- A deed. -/
structure Dd where
  kind : Int
  no : Int
  x : Ino
def noI : Ino := ⟨0, 0, 0, 0, ByteArray.empty, [], []⟩
instance : Inhabited Ino := ⟨noI⟩
instance : Inhabited Dd := ⟨⟨0, 0, noI⟩⟩

/-- A number as eight bytes. -/
def n8 (v : Int) : List Int := low (v % 18446744073709551616) 8
def n4 (v : Int) : List Int := low v 4
def packT (s : ByteArray) : List Int := n4 s.size ++ bytesIn s
def packE (e : En) : List Int := packT e.s ++ n8 e.n
def packR (r : Rn) : List Int := n8 r.f ++ n8 r.a ++ n8 r.n
def packI (x : Ino) : List Int := (((n8 x.no ++ n8 x.kind) ++ n8 x.links) ++ n8 x.size) ++ packT x.t ++ n4 x.es.length ++ x.es.flatMap packE ++ n4 x.rs.length ++ x.rs.flatMap packR
def packD (d : Dd) : List Int :=
  (d.kind % 256) :: (if d.kind = 1 ∨ d.kind = 3 ∨ d.kind = 4 then n8 d.no else if d.kind = 2 then packI d.x else [])
def packL (l : List Dd) : List Int := l.flatMap packD

theorem n8_length (v : Int) : (n8 v).length = 8 := low_length _ _
theorem n4_length (v : Int) : (n4 v).length = 4 := low_length _ _
theorem n8_bys (v : Int) : Bys (n8 v) := low_bys _ _
theorem n4_bys (v : Int) : Bys (n4 v) := low_bys _ _
theorem packL_nil : packL [] = [] := rfl
theorem packL_app (l m : List Dd) : packL (l ++ m) = packL l ++ packL m := by simp [packL]
theorem packL_one (d : Dd) : packL [d] = packD d := by simp [packL]

/-- Where one reads, and whether something was not there. -/
structure Rd where
  at_ : Int
  bad : Bool
def wrapI (v : Int) : Int := wrap64 v
def rdNum (xs : List Int) (s : Rd) : Int × Rd := (wrapI (getS xs s.at_ 8).1, ⟨s.at_ + 8, s.bad || (getS xs s.at_ 8).2 != 0⟩)
def rdMany (xs : List Int) (s : Rd) : Int × Rd := ((getS xs s.at_ 4).1, ⟨s.at_ + 4, s.bad || (getS xs s.at_ 4).2 != 0⟩)
def rdText (xs : List Int) (s : Rd) : List Int × Rd := ((textS xs s.at_).1, ⟨(textS xs s.at_).2.1, s.bad || (textS xs s.at_).2.2 != 0⟩)
end Go.Proofs.Ytgkmgpjhpplkiaa
