/-
  Inodes: strings.IndexByte; isTarget; the document's RightTarget.
-/
import Derived.Lib.Bytealg
import Derived.Shelf.Abstract
import Derived.Test.YtgkmgpjhpplkiaaInoA
import Derived.Test.YtgkmgpjhpplkiaaNameA
namespace Go.Proofs.Ytgkmgpjhpplkiaa
open Go.RowKit
set_option linter.unusedVariables false
set_option maxRecDepth 100000

theorem idx_has (l : List UInt8) (c : UInt8) : decide (Lib.indexByte l c < 0) = !l.contains c := by
  induction l with
  | nil => rfl
  | cons b t ih =>
    have hg := Lib.indexByte_ge t c
    unfold Lib.indexByte
    by_cases h : b = c
    · subst h; simp
    · have h1 : (b == c) = false := by simpa using h
      have h2 : (c == b) = false := by simpa using fun e => h e.symm
      rw [h1, List.contains_cons, h2]
      simp only [Bool.false_or, Bool.false_eq_true, if_false]
      rw [← ih]
      by_cases h3 : Lib.indexByte t c = -1
      · rw [h3]; rfl
      · have h4 : (Lib.indexByte t c == -1) = false := by simpa using h3
        rw [h4]
        simp only [Bool.false_eq_true, if_false]
        rw [decide_eq_false (by omega), decide_eq_false (by omega)]

theorem has_more {l : List UInt8} {k : Nat} (h : k < l.length) (h0 : (l.take k).contains 0 = false) : (l.take (k + 1)).contains 0 = (l[k] == 0) := by
  have e : [l[k]].contains 0 = (l[k] == 0) := by
    rw [Bool.eq_iff_iff, List.contains_iff_mem, List.mem_singleton, beq_iff_eq]
    exact ⟨Eq.symm, Eq.symm⟩
  rw [List.take_succ_eq_append_getElem h, List.contains_append, h0, e]
  rfl
theorem has_yes {l : List UInt8} {k : Nat} (h : (l.take k).contains 0 = true) : rightT l = false := by
  have : l.contains 0 = true := by
    rw [List.contains_iff_mem] at h ⊢
    exact List.mem_of_mem_take h
  unfold rightT
  rw [this]
  simp

end Go.Proofs.Ytgkmgpjhpplkiaa
