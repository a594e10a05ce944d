/-
  The walk of garretlaw04.NorRight, with what opens a geometry.
-/
import Derived.Test.YtnlfhapnclfonaaRightW
import Derived.Test.YtnlfhapnclfonaaGeoO
