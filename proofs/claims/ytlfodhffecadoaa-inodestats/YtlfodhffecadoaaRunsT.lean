/-
  Plain matter: places page by page; how many pages runs have, by their table.
-/
import Derived.Test.YtlfodhffecadoaaRunsP
namespace Go.Proofs.Ytlfodhffecadoaa
set_option linter.unusedVariables false

/-- A place, or -1. -/
def plOf (o : Option Int) : Int := o.getD (-1)
/-- The pages' places, those that have one. -/
def outS (f : Nat → Option Int) : Nat → List Int
  | 0 => []
  | k + 1 => match f k with | none => outS f k | some a => outS f k ++ [a]
theorem out_len (f : Nat → Option Int) (n : Nat) : (outS f n).length = cntF f n := by
  induction n with
  | zero => rfl
  | succ n ih =>
    cases h : f n with
    | none => simp [outS, cntF, h, ih]
    | some a => simp [outS, cntF, h, ih]
theorem cnt_congr {f g : Nat → Option Int} : ∀ n, (∀ k, k < n → f k = g k) → cntF f n = cntF g n
  | 0, _ => rfl
  | n + 1, h => by rw [cntF, cntF, cnt_congr n (fun k hk => h k (by omega)), h n (by omega)]
theorem cnt_more_none {f : Nat → Option Int} {n : Nat} : ∀ m, n ≤ m → (∀ k, n ≤ k → k < m → f k = none) → cntF f m = cntF f n
  | 0, h, _ => by obtain rfl : n = 0 := by omega
                  rfl
  | m + 1, h, hk => by
    by_cases e : n = m + 1
    · rw [e]
    · rw [cntF, cnt_more_none m (by omega) (fun k h1 h2 => hk k h1 (by omega)), hk m (by omega) (by omega)]
      simp
/-- Of right runs the table has as many places as the runs have pages. -/
theorem cnt_tab {l : List Rn} (h : rightS l = true) : ∀ m : Nat, endS l ≤ (m : Int) → ((cntF (tabS l) m : Nat) : Int) = cntS l := by
  revert h
  refine snoc_ind (P := fun l => rightS l = true → ∀ m : Nat, endS l ≤ (m : Int) → ((cntF (tabS l) m : Nat) : Int) = cntS l) ?_ ?_ l
  · intro _ m _
    rw [cnt_more_none (f := tabS []) (n := 0) m (Nat.zero_le _) (fun k _ _ => rfl)]
    rfl
  · intro l r ih h m hm
    obtain ⟨h1, h2, h3⟩ := right_parts h
    have hw := within_iff.1 h2
    have he := end_nonneg h1
    rw [end_snoc] at hm
    obtain ⟨F, hF⟩ := Int.eq_ofNat_of_zero_le hw.2.1
    obtain ⟨N, hN⟩ := Int.eq_ofNat_of_zero_le (show 0 ≤ r.n by omega)
    have hlow : ∀ k : Nat, k < F → tabS (l ++ [r]) k = tabS l k := by
      intro k hk
      show getS (l ++ [r]) k = getS l k
      rw [get_snoc]
      have : hasS r (k : Int) = false := by rw [Bool.eq_false_iff]; intro e; have := has_iff.1 e; omega
      rw [this]
      cases getS l (k : Int) <;> rfl
    have hmid : ∀ j : Nat, j ≤ N → ((cntF (tabS (l ++ [r])) (F + j) : Nat) : Int) = cntS l + (j : Int) := by
      intro j
      induction j with
      | zero =>
        intro _
        rw [Nat.add_zero, cnt_congr F hlow, ih h1 F (by omega)]
        simp
      | succ j ihj =>
        intro hj
        have e : tabS (l ++ [r]) (F + j) = some (r.a + (((F + j : Nat) : Int) - r.f)) := get_last h _ (by omega) (by omega)
        rw [← Nat.add_assoc, cntF, e]
        have := ihj (by omega)
        simp
        omega
    have hup : ∀ k : Nat, F + N ≤ k → k < m → tabS (l ++ [r]) k = none := by
      intro k hk _
      exact get_end h _ (by rw [end_snoc]; omega)
    rw [cnt_more_none m (by omega) hup, hmid N (Nat.le_refl _), cnt_snoc]
    omega
theorem cnt_64 {l : List Rn} (h : rightS l = true) : ((cntF (tabS l) 64 : Nat) : Int) = cntS l := cnt_tab h 64 (by have := end_nonneg h; omega)
end Go.Proofs.Ytlfodhffecadoaa
