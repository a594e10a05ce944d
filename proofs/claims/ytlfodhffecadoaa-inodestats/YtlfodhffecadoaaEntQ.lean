/-
  Plain matter of entries that rise: what adding and removing makes of them.
-/
import Derived.Test.YtlfodhffecadoaaEntP
namespace Go.Proofs.Ytlfodhffecadoaa
set_option linter.unusedVariables false

theorem getD_at {l : List En} {i : Nat} (h : i < l.length) : l.getD i default = l[i] := by simp [List.getD, List.getElem?_eq_getElem h]

/-- Each as it may be, and rising. -/
structure Asc (l : List En) : Prop where
  each : ∀ x ∈ l, rightN (bl x.s) = true ∧ 0 < x.n
  rise : l.Pairwise (fun x y => bl x.s < bl y.s)
theorem Asc.nil : Asc [] := ⟨fun x h => absurd h (by simp), List.Pairwise.nil⟩
theorem stepE_iff {l : List En} {i : Nat} : stepE l i = true ↔ rightN (bl (l.getD i default).s) = true ∧ 0 < (l.getD i default).n ∧ (i = 0 ∨ bl (l.getD (i - 1) default).s < bl (l.getD i default).s) := by
  unfold stepE
  simp only [Bool.and_eq_true, Bool.or_eq_true, decide_eq_true_eq, and_assoc]
theorem right_asc {l : List En} : rightE l = true ↔ l.length ≤ 100 ∧ Asc l := by
  rw [rightE_iff]
  constructor
  · rintro ⟨h1, h2⟩
    refine ⟨h1, ⟨fun x hx => ?_, ?_⟩⟩
    · obtain ⟨i, hi, rfl⟩ := List.mem_iff_getElem.1 hx
      have := stepE_iff.1 (h2 i hi)
      rw [getD_at hi] at this
      exact ⟨this.1, this.2.1⟩
    · rw [List.pairwise_iff_getElem]
      have key : ∀ d i (hi : i + d + 1 < l.length), bl (l[i]'(by omega)).s < bl (l[i + d + 1]).s := by
        intro d
        induction d with
        | zero =>
          intro i hi
          have := (stepE_iff.1 (h2 (i + 1) hi)).2.2
          rw [getD_at hi, Nat.add_sub_cancel, getD_at (show i < l.length by omega)] at this
          rcases this with h | h
          · omega
          · exact h
        | succ d ih =>
          intro i hi
          have a := ih i (by omega)
          have := (stepE_iff.1 (h2 (i + (d + 1) + 1) hi)).2.2
          rw [getD_at hi, Nat.add_sub_cancel, getD_at (show i + (d + 1) < l.length by omega)] at this
          rcases this with h | h
          · omega
          · exact txt_trans a h
      intro i j hi hj hij
      obtain ⟨d, rfl⟩ : ∃ d, j = i + d + 1 := ⟨j - i - 1, by omega⟩
      exact key d i hj
  · rintro ⟨h1, h2⟩
    refine ⟨h1, fun i hi => stepE_iff.2 ?_⟩
    rw [getD_at hi]
    have he := h2.each _ (List.getElem_mem hi)
    refine ⟨he.1, he.2, ?_⟩
    by_cases h0 : i = 0
    · exact .inl h0
    · right
      rw [getD_at (show i - 1 < l.length by omega)]
      exact List.pairwise_iff_getElem.1 h2.rise (i - 1) i (by omega) hi (by omega)

theorem mem_take_lt {l : List En} {k : Nat} {x : En} (h : x ∈ l.take k) : ∃ j, j < k ∧ j < l.length ∧ l.getD j default = x := by
  obtain ⟨j, hj, rfl⟩ := List.mem_iff_getElem.1 h
  rw [List.length_take] at hj
  exact ⟨j, by omega, by omega, by rw [getD_at (by omega)]; simp⟩
theorem mem_drop_ge {l : List En} {k : Nat} {x : En} (h : x ∈ l.drop k) : ∃ j, k ≤ j ∧ j < l.length ∧ l.getD j default = x := by
  obtain ⟨j, hj, rfl⟩ := List.mem_iff_getElem.1 h
  rw [List.length_drop] at hj
  exact ⟨k + j, by omega, by omega, by rw [getD_at (by omega)]; simp⟩
/-- What stands ahead of the place is below, what stands from it on is above. -/
theorem above_parts {l : List En} {s : List UInt8} (hA : Asc l) (h : atS l s = none) : (∀ x ∈ l.take (aboveS l s), bl x.s < s) ∧ ∀ x ∈ l.drop (aboveS l s), s < bl x.s := by
  have hn := atS_none.1 h
  constructor
  · intro x hx
    obtain ⟨j, hj, hjl, rfl⟩ := mem_take_lt hx
    rcases Decidable.em (bl (l.getD j default).s < s) with h1 | h1
    · exact h1
    · exact absurd (txt_antisymm h1 (above_lt hj)) (hn _ (by rw [getD_at hjl]; exact List.getElem_mem hjl))
  · intro x hx
    obtain ⟨j, hj, hjl, rfl⟩ := mem_drop_ge hx
    have hk := above_at (l := l) (s := s) (by omega)
    by_cases e : j = aboveS l s
    · rw [e]; exact hk
    · refine txt_trans hk ?_
      rw [getD_at (show aboveS l s < l.length by omega), getD_at hjl]
      exact List.pairwise_iff_getElem.1 hA.rise _ _ (by omega) hjl (by omega)
theorem asc_ins {l : List En} {e : En} (hA : Asc l) (h1 : rightN (bl e.s) = true) (h2 : 0 < e.n) (h3 : atS l (bl e.s) = none) : Asc (insS l (aboveS l (bl e.s)) e) := by
  obtain ⟨p1, p2⟩ := above_parts hA h3
  refine ⟨fun x hx => ?_, ?_⟩
  · rcases List.mem_append.1 hx with h | h
    · exact hA.each x (List.mem_of_mem_take h)
    · rcases List.mem_cons.1 h with rfl | h
      · exact ⟨h1, h2⟩
      · exact hA.each x (List.mem_of_mem_drop h)
  · unfold insS
    rw [List.pairwise_append, List.pairwise_cons]
    refine ⟨hA.rise.sublist (List.take_sublist _ _), ⟨fun x hx => p2 x hx, hA.rise.sublist (List.drop_sublist _ _)⟩, fun x hx y hy => ?_⟩
    rcases List.mem_cons.1 hy with rfl | hy
    · exact p1 x hx
    · exact txt_trans (p1 x hx) (p2 y hy)
theorem ins_getD_lt {l : List En} {e : En} {k j : Nat} (hk : k ≤ l.length) (hj : j < k) : (insS l k e).getD j default = l.getD j default := by
  unfold insS List.getD
  rw [List.getElem?_append_left (by rw [List.length_take]; omega), List.getElem?_take_of_lt hj]
theorem ins_getD_same {l : List En} {e : En} {k : Nat} (hk : k ≤ l.length) : (insS l k e).getD k default = e := by
  unfold insS List.getD
  rw [List.getElem?_append_right (by rw [List.length_take]; omega), List.length_take, Nat.min_eq_left hk, Nat.sub_self]
  rfl
theorem at_ins {l : List En} {e : En} {k : Nat} (hk : k ≤ l.length) (h : atS l (bl e.s) = none) : atS (insS l k e) (bl e.s) = some k := by
  refine atS_some.2 ⟨by rw [ins_length _ _ _ hk]; omega, by rw [ins_getD_same hk], fun j hj => ?_⟩
  rw [ins_getD_lt hk hj]
  exact atS_none.1 h _ (by rw [getD_at (by omega)]; exact List.getElem_mem _)
theorem find_ins {l : List En} {e : En} {k : Nat} (hk : k ≤ l.length) (h : atS l (bl e.s) = none) : findS (insS l k e) (bl e.s) = (e.n, true) := by
  unfold findS
  rw [at_ins hk h]
  simp only [ins_getD_same hk]

theorem asc_cut {l : List En} (hA : Asc l) (i : Nat) : Asc (cutAt l i) := by
  refine ⟨fun x hx => ?_, ?_⟩
  · rcases List.mem_append.1 hx with h | h
    · exact hA.each x (List.mem_of_mem_take h)
    · exact hA.each x (List.mem_of_mem_drop h)
  · unfold cutAt
    refine hA.rise.sublist ?_
    conv => rhs; rw [← List.take_append_drop i l]
    refine List.Sublist.append (List.Sublist.refl _) ?_
    rw [show l.drop (i + 1) = (l.drop i).drop 1 by rw [List.drop_drop]]
    exact List.drop_sublist _ _
theorem at_cut {l : List En} (hA : Asc l) {s : List UInt8} {i : Nat} (h : atS l s = some i) : atS (cutAt l i) s = none := by
  obtain ⟨hi, h1, h2⟩ := atS_some.1 h
  refine atS_none.2 fun x hx => ?_
  rcases List.mem_append.1 hx with h' | h'
  · obtain ⟨j, hj, hjl, rfl⟩ := mem_take_lt h'
    exact h2 j hj
  · obtain ⟨j, hj, hjl, rfl⟩ := mem_drop_ge h'
    have := List.pairwise_iff_getElem.1 hA.rise i j hi hjl (by omega)
    rw [← getD_at hi, ← getD_at hjl, h1] at this
    intro e
    rw [e] at this
    exact txt_irrefl _ this

/-- May it be added? -/
def okE (l : List En) (e : En) : Bool := rightN (bl e.s) && decide (0 < e.n) && !(atS l (bl e.s)).isSome && decide (l.length < 100)
theorem add_yes {l : List En} {e : En} (h : okE l e = true) : addS l e = (insS l (aboveS l (bl e.s)) e, 0) := by
  unfold okE at h
  simp only [Bool.and_eq_true, decide_eq_true_eq, Bool.not_eq_true'] at h
  obtain ⟨⟨⟨h1, h2⟩, h3⟩, h4⟩ := h
  unfold addS
  rw [if_neg (by simp [h1]), if_neg (by omega), if_neg (by simp [h3]), if_neg (by omega)]
theorem add_no {l : List En} {e : En} (h : okE l e = false) : (addS l e).2 ≠ 0 := by
  unfold addS
  split
  · decide
  · split
    · decide
    · split
      · decide
      · split
        · decide
        · rename_i h1 h2 h3 h4
          exfalso
          unfold okE at h
          have e1 : rightN (bl e.s) = true := by simpa using h1
          have e3 : (atS l (bl e.s)).isSome = false := by simpa using h3
          rw [e1, decide_eq_true (show 0 < e.n by omega), e3, decide_eq_true (show l.length < 100 by omega)] at h
          cases h
theorem ok_none {l : List En} {e : En} (h : okE l e = true) : rightN (bl e.s) = true ∧ 0 < e.n ∧ atS l (bl e.s) = none ∧ l.length < 100 := by
  unfold okE at h
  simp only [Bool.and_eq_true, decide_eq_true_eq, Bool.not_eq_true'] at h
  obtain ⟨⟨⟨h1, h2⟩, h3⟩, h4⟩ := h
  exact ⟨h1, h2, by simpa using h3, h4⟩
end Go.Proofs.Ytlfodhffecadoaa
