/-
  Plain matter of garretlaw09.RunsWhole: a row of pages; one of them elsewhere; an order of all numbers.
-/
import Derived.Test.YtdjpnoolbpnpiaaRunsP
namespace Go.Proofs.Ytdjpnoolbpnpiaa
set_option linter.unusedVariables false

def rowF (F a n : Nat) : Nat → Option Int := fun k => if F ≤ k ∧ k < F + n then some ((a : Int) + ((k : Int) - (F : Int))) else none
theorem row_in {F a n k : Nat} (h : F ≤ k ∧ k < F + n) : rowF F a n k = some ((a : Int) + ((k : Int) - (F : Int))) := if_pos h
theorem row_out {F a n k : Nat} (h : ¬ (F ≤ k ∧ k < F + n)) : rowF F a n k = none := if_neg h
theorem row_fair {F a n : Nat} (ha : a ≤ 1000000) (hn : n ≤ 64) : Fair (rowF F a n) := by
  intro k x hk hx
  by_cases h : F ≤ k ∧ k < F + n
  · rw [row_in h] at hx
    cases hx
    omega
  · rw [row_out h] at hx; cases hx
theorem lay_row0 {F a n : Nat} : ∀ j, j ≤ F → layS (rowF F a n) j = []
  | 0, _ => rfl
  | j + 1, h => by rw [lay_none (row_out (by omega))]; exact lay_row0 j (by omega)
theorem lay_row1 {F a n : Nat} : ∀ i, i < n → layS (rowF F a n) (F + (i + 1)) = [⟨F, a, (i : Int) + 1⟩]
  | 0, h => by
    rw [show F + (0 + 1) = F + 1 from rfl, lay_some (row_in ⟨by omega, by omega⟩), lay_row0 F (by omega), push_nil]
    simp
  | i + 1, h => by
    rw [show F + (i + 1 + 1) = (F + (i + 1)) + 1 from rfl, lay_some (row_in ⟨by omega, by omega⟩), lay_row1 i (by omega)]
    have := push_snoc [] ⟨F, a, (i : Int) + 1⟩ ((F + (i + 1) : Nat) : Int) ((a : Int) + (((F + (i + 1) : Nat) : Int) - (F : Int)))
    rw [List.nil_append] at this
    rw [this, if_pos (goes_iff.2 ⟨by simp, by simp; omega⟩)]
    simp
theorem lay_row2 {F a n : Nat} (hn : 0 < n) : ∀ d, layS (rowF F a n) (F + n + d) = [⟨F, a, n⟩]
  | 0 => by
    obtain ⟨m, rfl⟩ : ∃ m, n = m + 1 := ⟨n - 1, by omega⟩
    show layS (rowF F a (m + 1)) (F + (m + 1)) = _
    rw [lay_row1 m (by omega)]
    simp
  | d + 1 => by rw [show F + n + (d + 1) = (F + n + d) + 1 from rfl, lay_none (row_out (by omega))]; exact lay_row2 hn d
theorem lay_row {F a n : Nat} (hn : 0 < n) (h : F + n ≤ 64) : layS (rowF F a n) 64 = [⟨F, a, n⟩] := by
  have := lay_row2 (F := F) (a := a) hn (64 - (F + n))
  rwa [show F + n + (64 - (F + n)) = 64 from by omega] at this

/-- One page elsewhere. -/
def offF (F a n o : Nat) : Nat → Option Int := updF (rowF F a n) ((F : Int) + (o : Int)) ((a : Int) + (n : Int) + 7)
theorem off_at {F a n o k : Nat} (h : k = F + o) : offF F a n o k = some ((a : Int) + (n : Int) + 7) := by unfold offF updF; rw [if_pos (by omega)]
theorem off_in {F a n o k : Nat} (h : k ≠ F + o) (h2 : F ≤ k ∧ k < F + n) : offF F a n o k = some ((a : Int) + ((k : Int) - (F : Int))) := by unfold offF updF; rw [if_neg (by omega), row_in h2]
theorem off_out {F a n o k : Nat} (h : k ≠ F + o) (h2 : ¬ (F ≤ k ∧ k < F + n)) : offF F a n o k = none := by unfold offF updF; rw [if_neg (by omega), row_out h2]
theorem off_fair {F a n o : Nat} (ha : a ≤ 1000000) (hn : n ≤ 64) : Fair (offF F a n o) := fair_upd (row_fair ha hn) (by omega)
theorem off_some {F a n o : Nat} (ho : o < n) (k : Nat) : (offF F a n o k).isSome = decide (F ≤ k ∧ k < F + n) := by
  by_cases h : k = F + o
  · rw [off_at h]; simp; omega
  · by_cases h2 : F ≤ k ∧ k < F + n
    · rw [off_in h h2]; simp [h2]
    · rw [off_out h h2, decide_eq_false h2]; rfl
theorem off_cnt {F a n o : Nat} (ho : o < n) : ∀ j, cntF (offF F a n o) j = if j ≤ F then 0 else if j ≤ F + n then j - F else n
  | 0 => by simp [cntF]
  | j + 1 => by
    rw [cntF, off_cnt ho j, off_some ho]
    by_cases h : F ≤ j ∧ j < F + n
    · rw [decide_eq_true h]
      simp only [if_true]
      by_cases h2 : j = F
      · subst h2
        rw [if_pos (Nat.le_refl _), if_neg (by omega), if_pos (by omega)]; omega
      · rw [if_neg (by omega), if_pos (by omega), if_neg (by omega), if_pos (by omega)]; omega
    · rw [decide_eq_false h]
      simp only [Bool.false_eq_true, if_false, Nat.add_zero]
      by_cases h2 : j + 1 ≤ F
      · rw [if_pos (by omega), if_pos h2]
      · rw [if_neg (show ¬ j + 1 ≤ F from h2)]
        by_cases h3 : j = F + n
        · subst h3
          by_cases h4 : F + n ≤ F
          · omega
          · rw [if_neg h4, if_pos (Nat.le_refl _), if_neg (by omega)]; omega
        · rw [if_neg (by omega), if_neg (by omega), if_neg (by omega)]
theorem off_start {F a n o : Nat} (ho : o < n) (k : Nat) : startS (offF F a n o) k = decide (k = F ∨ (0 < o ∧ k = F + o) ∨ (o + 1 < n ∧ k = F + o + 1)) := by
  unfold startS
  by_cases h : k = F + o
  · rw [off_at h]
    simp only
    rw [decide_eq_true (by omega)]
    by_cases h0 : k = 0
    · simp [h0]
    · by_cases h1 : o = 0
      · rw [off_out (k := k - 1) (by omega) (by omega)]; simp
      · rw [off_in (k := k - 1) (by omega) (by omega)]; simp; omega
  · by_cases h2 : F ≤ k ∧ k < F + n
    · rw [off_in h h2]
      simp only
      by_cases hF : k = F
      · rw [decide_eq_true (by omega)]
        by_cases h0 : k = 0
        · simp [h0]
        · rw [off_out (k := k - 1) (by omega) (by omega)]; simp
      · by_cases ho1 : k = F + o + 1
        · rw [decide_eq_true (by omega), off_at (k := k - 1) (by omega)]; simp; omega
        · rw [decide_eq_false (by omega), off_in (k := k - 1) (by omega) (by omega)]; simp; omega
    · rw [off_out h h2, decide_eq_false (by omega)]
theorem off_st {F a n o : Nat} (ho : o < n) : ∀ j, stF (offF F a n o) j = (if F < j then 1 else 0) + (if 0 < o ∧ F + o < j then 1 else 0) + (if o + 1 < n ∧ F + o + 1 < j then 1 else 0)
  | 0 => by simp [stF]
  | j + 1 => by
    rw [stF, off_st ho j, off_start ho]
    simp only [decide_eq_true_eq]
    have hA : (if F < j + 1 then 1 else 0) = (if F < j then 1 else 0) + (if j = F then 1 else 0) := by
      by_cases h : F < j
      · rw [if_pos h, if_pos (by omega), if_neg (by omega)]
      · by_cases h2 : j = F
        · rw [if_neg h, if_pos (by omega), if_pos h2]
        · rw [if_neg h, if_neg (by omega), if_neg h2]
    have hB : (if 0 < o ∧ F + o < j + 1 then 1 else 0) = (if 0 < o ∧ F + o < j then 1 else 0) + (if 0 < o ∧ j = F + o then 1 else 0) := by
      by_cases h : 0 < o ∧ F + o < j
      · rw [if_pos h, if_pos (by omega), if_neg (by omega)]
      · by_cases h2 : 0 < o ∧ j = F + o
        · rw [if_neg h, if_pos (by omega), if_pos h2]
        · rw [if_neg h, if_neg (by omega), if_neg h2]
    have hC : (if o + 1 < n ∧ F + o + 1 < j + 1 then 1 else 0) = (if o + 1 < n ∧ F + o + 1 < j then 1 else 0) + (if o + 1 < n ∧ j = F + o + 1 then 1 else 0) := by
      by_cases h : o + 1 < n ∧ F + o + 1 < j
      · rw [if_pos h, if_pos (by omega), if_neg (by omega)]
      · by_cases h2 : o + 1 < n ∧ j = F + o + 1
        · rw [if_neg h, if_pos (by omega), if_pos h2]
        · rw [if_neg h, if_neg (by omega), if_neg h2]
    have hD : (if j = F ∨ 0 < o ∧ j = F + o ∨ o + 1 < n ∧ j = F + o + 1 then 1 else 0) = (if j = F then 1 else 0) + (if 0 < o ∧ j = F + o then 1 else 0) + (if o + 1 < n ∧ j = F + o + 1 then 1 else 0) := by
      by_cases h1 : j = F
      · rw [if_pos (.inl h1), if_pos h1, if_neg (by omega), if_neg (by omega)]
      · by_cases h2 : 0 < o ∧ j = F + o
        · rw [if_pos (.inr (.inl h2)), if_neg h1, if_pos h2, if_neg (by omega)]
        · by_cases h3 : o + 1 < n ∧ j = F + o + 1
          · rw [if_pos (.inr (.inr h3)), if_neg h1, if_neg h2, if_pos h3]
          · rw [if_neg (by omega), if_neg h1, if_neg h2, if_neg h3]
    rw [hA, hB, hC, hD]
    omega
theorem off_len {F a n o : Nat} (ho : o < n) (hn : 3 ≤ n) (h : F + n ≤ 64) (ha : a ≤ 1000000) : (layS (offF F a n o) 64).length = if o = 0 ∨ o + 1 = n then 2 else 3 := by
  rw [(lay_ok (off_fair ha (by omega)) 64 (Nat.le_refl _)).len, off_st ho, if_pos (show F < 64 by omega)]
  by_cases h0 : o = 0
  · rw [if_neg (show ¬ (0 < o ∧ F + o < 64) by omega), if_pos (show o + 1 < n ∧ F + o + 1 < 64 by omega), if_pos (show o = 0 ∨ o + 1 = n from .inl h0)]
  · by_cases h1 : o + 1 = n
    · rw [if_pos (show 0 < o ∧ F + o < 64 by omega), if_neg (show ¬ (o + 1 < n ∧ F + o + 1 < 64) by omega), if_pos (show o = 0 ∨ o + 1 = n from .inr h1)]
    · rw [if_pos (show 0 < o ∧ F + o < 64 by omega), if_pos (show o + 1 < n ∧ F + o + 1 < 64 by omega), if_neg (show ¬ (o = 0 ∨ o + 1 = n) by omega)]
theorem off_back {F a n o : Nat} (ho : o < n) (k : Nat) : updF (offF F a n o) ((F : Int) + (o : Int)) ((a : Int) + (o : Int)) k = rowF F a n k := by
  unfold updF
  by_cases h : (k : Int) = (F : Int) + (o : Int)
  · rw [if_pos h, row_in (by omega)]; congr 1; omega
  · rw [if_neg h]
    unfold offF updF
    rw [if_neg h]

/-- All numbers below n, in some order. -/
structure AllN (xs : List Int) (n : Nat) : Prop where
  len : xs.length = n
  rng : ∀ i, i < n → 0 ≤ xs.getD i 0 ∧ xs.getD i 0 < n
  sur : ∀ y : Nat, y < n → ∃ i, i < n ∧ xs.getD i 0 = y
theorem getD_set {xs : List Int} {i j : Nat} {x : Int} (hj : j < xs.length) : (xs.set i x).getD j 0 = if i = j then x else xs.getD j 0 := by
  simp only [List.getD, List.getElem?_set]
  by_cases h : i = j
  · subst h; simp [hj]
  · simp [h]
theorem AllN.swap {xs : List Int} {n : Nat} (h : AllN xs n) {p k : Nat} (hp : p < n) (hk : k < n) : AllN ((xs.set p (xs.getD k 0)).set k (xs.getD p 0)) n := by
  have hl := h.len
  have e : ∀ j, j < n → ((xs.set p (xs.getD k 0)).set k (xs.getD p 0)).getD j 0 = if k = j then xs.getD p 0 else if p = j then xs.getD k 0 else xs.getD j 0 := by
    intro j hj
    rw [getD_set (by simp; omega), getD_set (by omega)]
  refine ⟨by simp [hl], fun i hi => ?_, fun y hy => ?_⟩
  · rw [e i hi]
    split
    · exact h.rng p hp
    · split
      · exact h.rng k hk
      · exact h.rng i hi
  · obtain ⟨i, hi, hy'⟩ := h.sur y hy
    by_cases h1 : i = p
    · subst h1; exact ⟨k, hk, by rw [e k hk, if_pos rfl]; exact hy'⟩
    · by_cases h2 : i = k
      · subst h2
        exact ⟨p, hp, by rw [e p hp, if_neg h1, if_pos rfl]; exact hy'⟩
      · exact ⟨i, hi, by rw [e i hi, if_neg (Ne.symm h2), if_neg (Ne.symm h1)]; exact hy'⟩
/-- The table when the first i were set. -/
def fillF (F a : Nat) (xs : List Int) : Nat → Nat → Option Int
  | 0 => fun _ => none
  | i + 1 => updF (fillF F a xs i) ((F : Int) + xs.getD i 0) ((a : Int) + xs.getD i 0)
theorem fill_or {F a : Nat} {xs : List Int} {n : Nat} (h : AllN xs n) : ∀ i, i ≤ n → ∀ k, fillF F a xs i k = none ∨ fillF F a xs i k = rowF F a n k
  | 0, _, k => .inl rfl
  | i + 1, hi, k => by
    unfold fillF updF
    try dsimp only
    by_cases e : (k : Int) = (F : Int) + xs.getD i 0
    · right
      have := h.rng i (by omega)
      rw [if_pos e, row_in (by omega)]
      congr 1
      omega
    · rw [if_neg e]; exact fill_or h i (by omega) k
theorem fill_has {F a : Nat} {xs : List Int} : ∀ i j, j < i → ∀ k : Nat, (k : Int) = (F : Int) + xs.getD j 0 → fillF F a xs i k ≠ none
  | 0, j, hj, k, hk => by omega
  | i + 1, j, hj, k, hk => by
    unfold fillF updF
    try dsimp only
    by_cases e : (k : Int) = (F : Int) + xs.getD i 0
    · rw [if_pos e]; simp
    · rw [if_neg e]
      by_cases h : j = i
      · subst h; exact absurd hk e
      · exact fill_has i j (by omega) k hk
theorem fill_all {F a : Nat} {xs : List Int} {n : Nat} (h : AllN xs n) (k : Nat) : fillF F a xs n k = rowF F a n k := by
  by_cases e : F ≤ k ∧ k < F + n
  · obtain ⟨i, hi, hy⟩ := h.sur (k - F) (by omega)
    rcases fill_or (F := F) (a := a) h n (Nat.le_refl _) k with h1 | h1
    · exact absurd h1 (fill_has n i hi k (by rw [hy]; omega))
    · exact h1
  · rcases fill_or (F := F) (a := a) h n (Nat.le_refl _) k with h1 | h1
    · rw [h1, row_out e]
    · exact h1
theorem fill_fair {F a : Nat} {xs : List Int} {n : Nat} (h : AllN xs n) (ha : a ≤ 1000000) (hn : n ≤ 64) (i : Nat) (hi : i ≤ n) : Fair (fillF F a xs i) := by
  intro k x hk hx
  rcases fill_or (F := F) (a := a) h i hi k with h1 | h1
  · rw [h1] at hx; cases hx
  · rw [h1] at hx; exact row_fair ha hn k x hk hx
end Go.Proofs.Ytdjpnoolbpnpiaa
