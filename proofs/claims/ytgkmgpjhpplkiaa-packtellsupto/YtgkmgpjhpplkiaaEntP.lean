/-
  Plain matter of package entries: entries as texts with numbers; which is first, which is above, what is right; adding and removing.
-/
import Derived.Test.YtgkmgpjhpplkiaaNameP
namespace Go.Proofs.Ytgkmgpjhpplkiaa
set_option linter.unusedVariables false

/-- An entry. -/
structure En where
  s : ByteArray
  n : Int
instance : Inhabited En := ⟨⟨ByteArray.empty, 0⟩⟩
theorem En.ext' {x y : En} (h : bl x.s = bl y.s) (k : x.n = y.n) : x = y := by
  cases x; cases y
  simp at h k
  rw [bl_inj h, k]

/-- The first entry of that name. -/
def atS (l : List En) (s : List UInt8) : Option Nat := l.findIdx? fun x => decide (bl x.s = s)
/-- The first entry whose name is above: behind all, if there is none. -/
def aboveS (l : List En) (s : List UInt8) : Nat := l.findIdx fun x => decide (s < bl x.s)
def findS (l : List En) (s : List UInt8) : Int × Bool := match atS l s with
  | some i => ((l.getD i default).n, true)
  | none => (0, false)
def insS (l : List En) (k : Nat) (e : En) : List En := l.take k ++ e :: l.drop k
def addS (l : List En) (e : En) : List En × Int :=
  if rightN (bl e.s) = false then ([], 17) else if e.n ≤ 0 then ([], 1) else if (atS l (bl e.s)).isSome = true then ([], 12) else if 100 ≤ l.length then ([], 21)
  else (insS l (aboveS l (bl e.s)) e, 0)
def cutAt (l : List En) (i : Nat) : List En := l.take i ++ l.drop (i + 1)
def remS (l : List En) (s : List UInt8) : List En × Int := match atS l s with
  | some i => (cutAt l i, 0)
  | none => ([], 11)
/-- The i-th may stand where it stands. -/
def stepE (l : List En) (i : Nat) : Bool :=
  rightN (bl (l.getD i default).s) && decide (0 < (l.getD i default).n) && (decide (i = 0) || decide (bl (l.getD (i - 1) default).s < bl (l.getD i default).s))
def rightE (l : List En) : Bool := decide (l.length ≤ 100) && (List.range l.length).all (stepE l)

theorem atS_none {l : List En} {s : List UInt8} : atS l s = none ↔ ∀ x ∈ l, bl x.s ≠ s := by
  simp [atS, List.findIdx?_eq_none_iff]
theorem atS_some {l : List En} {s : List UInt8} {i : Nat} : atS l s = some i ↔ i < l.length ∧ bl (l.getD i default).s = s ∧ ∀ j, j < i → bl (l.getD j default).s ≠ s := by
  unfold atS
  rw [List.findIdx?_eq_some_iff_getElem]
  constructor
  · rintro ⟨h, h1, h2⟩
    refine ⟨h, ?_, fun j hj => ?_⟩
    · simpa [List.getD, List.getElem?_eq_getElem h] using h1
    · have := h2 j hj
      simpa [List.getD, List.getElem?_eq_getElem (show j < l.length by omega)] using this
  · rintro ⟨h, h1, h2⟩
    refine ⟨h, ?_, fun j hj => ?_⟩
    · simpa [List.getD, List.getElem?_eq_getElem h] using h1
    · have := h2 j hj
      simpa [List.getD, List.getElem?_eq_getElem (show j < l.length by omega)] using this
theorem atS_lt {l : List En} {s : List UInt8} {i : Nat} (h : atS l s = some i) : i < l.length := (atS_some.1 h).1
theorem atS_nil (s : List UInt8) : atS [] s = none := rfl
theorem atS_cons (x : En) (l : List En) (s : List UInt8) : atS (x :: l) s = if bl x.s = s then some 0 else (atS l s).map (· + 1) := by
  unfold atS
  rw [List.findIdx?_cons]
  by_cases h : bl x.s = s <;> simp [h]
theorem above_le (l : List En) (s : List UInt8) : aboveS l s ≤ l.length := List.findIdx_le_length
theorem above_lt {l : List En} {s : List UInt8} {j : Nat} (h : j < aboveS l s) : ¬ s < bl (l.getD j default).s := by
  have hl := above_le l s
  have := List.not_of_lt_findIdx h
  simpa [List.getD, List.getElem?_eq_getElem (show j < l.length by omega)] using this
theorem above_at {l : List En} {s : List UInt8} (h : aboveS l s < l.length) : s < bl (l.getD (aboveS l s) default).s := by
  have := List.findIdx_getElem (w := h)
  simp at this
  simp only [List.getD, List.getElem?_eq_getElem h, Option.getD_some]
  exact this
theorem above_is {l : List En} {s : List UInt8} {k : Nat} (hk : k ≤ l.length) (h1 : ∀ j, j < k → ¬ s < bl (l.getD j default).s) (h2 : k < l.length → s < bl (l.getD k default).s) : aboveS l s = k := by
  rcases Nat.lt_trichotomy (aboveS l s) k with h | h | h
  · exact absurd (above_at (by omega)) (h1 _ h)
  · exact h
  · exact absurd (h2 (by have := above_le l s; omega)) (above_lt h)

theorem ins_length (l : List En) (k : Nat) (e : En) (hk : k ≤ l.length) : (insS l k e).length = l.length + 1 := by
  simp [insS]; omega
theorem cutAt_length (l : List En) (i : Nat) (hi : i < l.length) : (cutAt l i).length = l.length - 1 := by
  simp [cutAt]; omega

theorem rightE_step {l : List En} (h : rightE l = true) {i : Nat} (hi : i < l.length) : stepE l i = true := by
  unfold rightE at h
  simp only [Bool.and_eq_true, List.all_eq_true, List.mem_range] at h
  exact h.2 i hi
theorem rightE_len {l : List En} (h : rightE l = true) : l.length ≤ 100 := by
  unfold rightE at h
  simp only [Bool.and_eq_true, decide_eq_true_eq] at h
  exact h.1
theorem rightE_iff {l : List En} : rightE l = true ↔ l.length ≤ 100 ∧ ∀ i, i < l.length → stepE l i = true := by
  unfold rightE
  simp only [Bool.and_eq_true, decide_eq_true_eq, List.all_eq_true, List.mem_range]
theorem rightE_long {l : List En} (h : 100 < l.length) : rightE l = false := by
  unfold rightE
  rw [decide_eq_false (by omega)]; rfl
theorem rightE_bad {l : List En} {i : Nat} (hi : i < l.length) (h : stepE l i = false) : rightE l = false := by
  rw [Bool.eq_false_iff]
  intro hr
  rw [rightE_step hr hi] at h
  cases h

/-! ### the order of texts, as the walk meets it -/
theorem txt_antisymm {a b : List UInt8} (h : ¬ a < b) (k : ¬ b < a) : a = b := List.le_antisymm (List.not_lt.1 k) (List.not_lt.1 h)
theorem txt_irrefl (a : List UInt8) : ¬ a < a := List.lt_irrefl a
theorem txt_trans {a b c : List UInt8} (h : a < b) (k : b < c) : a < c := List.lt_trans h k
theorem txt_asymm {a b : List UInt8} (h : a < b) : ¬ b < a := List.lt_asymm h
theorem bless : ∀ (x y : List UInt8), Op.bytesLess x y = decide (x < y)
  | [], [] => by simp [Op.bytesLess]
  | [], _ :: _ => by simp [Op.bytesLess]
  | _ :: _, [] => by simp [Op.bytesLess]
  | a :: x, b :: y => by
    rw [Op.bytesLess, bless x y]
    by_cases h : a < b
    · simp [h, List.cons_lt_cons_iff]
    · by_cases h2 : a = b
      · subst h2; simp
      · simp [h, h2, List.cons_lt_cons_iff]
theorem tl_eq (s : ByteArray) : s.toList = bl s := Lib.toList_data s
theorem less_bl (x y : ByteArray) : Op.bytesLess x.toList y.toList = decide (bl x < bl y) := by rw [bless, tl_eq, tl_eq]
theorem same_bl (x y : ByteArray) : (x.toList == y.toList) = decide (bl x = bl y) := by rw [tl_eq, tl_eq, Bool.eq_iff_iff]; simp
theorem gtr_bl (x s : ByteArray) : (!Op.bytesLess x.toList s.toList && !x.toList == s.toList) = decide (bl s < bl x) := by
  rw [less_bl, same_bl, Bool.eq_iff_iff]
  simp only [Bool.and_eq_true, Bool.not_eq_true', decide_eq_false_iff_not, decide_eq_true_eq]
  constructor
  · rintro ⟨h1, h2⟩
    rcases Decidable.em (bl s < bl x) with h | h
    · exact h
    · exact absurd (txt_antisymm h1 h) h2
  · intro h
    exact ⟨txt_asymm h, fun e => txt_irrefl _ (by rw [e] at h; exact h)⟩
theorem leq_bl (x s : ByteArray) : (Op.bytesLess x.toList s.toList || x.toList == s.toList) = !decide (bl s < bl x) := by
  rw [← gtr_bl]
  cases Op.bytesLess x.toList s.toList <;> cases (x.toList == s.toList) <;> rfl
end Go.Proofs.Ytgkmgpjhpplkiaa
