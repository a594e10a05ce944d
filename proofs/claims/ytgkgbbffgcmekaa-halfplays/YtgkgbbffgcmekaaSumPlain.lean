/-
  Plain mathematics of the sum over bytes: 'adl': the two halves, each reduced at each byte; 'raw': not reduced; what a byte that is set, what two parts do to it. No program is named here.
-/
import Derived.Test.YtgkgbbffgcmekaaPlain
namespace Go.Proofs.Ytgkgbbffgcmekaa
open Go.RowKit
set_option linter.unusedVariables false

/-- From behind: a list is nothing, or a list and one more. -/
theorem list_rev {p : List Int → Prop} (h0 : p []) (h1 : ∀ xs x, p xs → p (xs ++ [x])) (xs : List Int) : p xs := by
  have : ∀ ys : List Int, p ys.reverse := by
    intro ys
    induction ys with
    | nil => exact h0
    | cons y t ih => rw [List.reverse_cons]; exact h1 _ _ ih
  have e := this xs.reverse
  rwa [List.reverse_reverse] at e

def adlStep (s : Int × Int) (x : Int) : Int × Int := ((s.1 + x) % 65521, (s.2 + (s.1 + x) % 65521) % 65521)
def adl (xs : List Int) : Int × Int := xs.foldl adlStep (1, 0)
/-- The sum: the sums' half, and the bytes' one. -/
def sumS (xs : List Int) : Int := (adl xs).2 * 65536 + (adl xs).1

theorem adl_snoc (xs : List Int) (x : Int) : adl (xs ++ [x]) = adlStep (adl xs) x := by simp [adl]
theorem adl_range (xs : List Int) : (0 ≤ (adl xs).1 ∧ (adl xs).1 < 65521) ∧ 0 ≤ (adl xs).2 ∧ (adl xs).2 < 65521 := by
  refine list_rev (p := fun xs => (0 ≤ (adl xs).1 ∧ (adl xs).1 < 65521) ∧ 0 ≤ (adl xs).2 ∧ (adl xs).2 < 65521) (by simp [adl]) ?_ xs
  · intro xs x ih
    rw [adl_snoc]; unfold adlStep
    exact ⟨⟨Int.emod_nonneg _ (by omega), Int.emod_lt_of_pos _ (by omega)⟩, Int.emod_nonneg _ (by omega), Int.emod_lt_of_pos _ (by omega)⟩
theorem sumS_range (xs : List Int) : 0 ≤ sumS xs ∧ sumS xs < 4294967296 := by
  have := adl_range xs
  unfold sumS; omega
/-- Sums are alike if both halves are. -/
theorem sumS_inj {xs ys : List Int} : sumS xs = sumS ys ↔ adl xs = adl ys := by
  have h1 := adl_range xs
  have h2 := adl_range ys
  unfold sumS
  constructor
  · intro h; exact Prod.ext (by omega) (by omega)
  · intro h; rw [h]

/-- Not reduced: the bytes' half. -/
def rawP : List Int → Int
  | [] => 1
  | x :: t => x + rawP t
/-- Not reduced: the sums' half: each byte counts as often as bytes from it on are there. -/
def rawQ : List Int → Int
  | [] => 0
  | x :: t => 1 + (t.length + 1) * x + rawQ t
theorem rawP_snoc (xs : List Int) (x : Int) : rawP (xs ++ [x]) = rawP xs + x := by
  induction xs with
  | nil => simp [rawP]; omega
  | cons y t ih => simp [rawP, ih]; omega
theorem rawP_app (xs ys : List Int) : rawP (xs ++ ys) = rawP xs + rawP ys - 1 := by
  induction xs with
  | nil => simp [rawP]; omega
  | cons y t ih => simp [rawP, ih]; omega
theorem rawQ_app (xs ys : List Int) : rawQ (xs ++ ys) = rawQ xs + rawQ ys + ys.length * (rawP xs - 1) := by
  induction xs with
  | nil => simp [rawP, rawQ]
  | cons y t ih =>
    rw [List.cons_append, rawQ, rawQ, rawP, ih, List.length_append]
    have h1 : (((t.length + ys.length : Nat) : Int) + 1) * y = (t.length + 1) * y + ys.length * y := by
      rw [← Int.add_mul]; congr 1; omega
    have h2 : (ys.length : Int) * (y + rawP t - 1) = ys.length * y + ys.length * (rawP t - 1) := by rw [← Int.mul_add]; congr 1; omega
    omega
theorem rawQ_snoc (xs : List Int) (x : Int) : rawQ (xs ++ [x]) = rawQ xs + (rawP xs + x) := by
  rw [rawQ_app]; simp [rawQ]; omega
theorem adl_raw (xs : List Int) : adl xs = (rawP xs % 65521, rawQ xs % 65521) := by
  refine list_rev (p := fun xs => adl xs = (rawP xs % 65521, rawQ xs % 65521)) (by simp [adl, rawP, rawQ]) ?_ xs
  · intro xs x ih
    rw [adl_snoc, ih, rawP_snoc, rawQ_snoc]; unfold adlStep
    exact Prod.ext (by simp only; omega) (by simp only; omega)
theorem rawP_set (xs : List Int) (i : Nat) (y : Int) (h : i < xs.length) : rawP (xs.set i y) = rawP xs + (y - xs.getD i 0) := by
  induction xs generalizing i with
  | nil => simp at h
  | cons x t ih =>
    cases i with
    | zero => simp only [List.set_cons_zero, rawP, List.getD_cons_zero]; omega
    | succ i =>
      have := ih i (by simpa using h)
      simp only [List.set_cons_succ, rawP, List.getD_cons_succ]; omega
theorem rawQ_set (xs : List Int) (i : Nat) (y : Int) (h : i < xs.length) : rawQ (xs.set i y) = rawQ xs + ((xs.length : Int) - i) * (y - xs.getD i 0) := by
  induction xs generalizing i with
  | nil => simp at h
  | cons x t ih =>
    cases i with
    | zero =>
      simp only [List.set_cons_zero, rawQ, List.length_cons, List.getD_cons_zero]
      have : (((t.length + 1 : Nat) : Int) - ((0 : Nat) : Int)) * (y - x) = (t.length + 1) * y - (t.length + 1) * x := by
        rw [← Int.mul_sub]; congr 1
      rw [this]; omega
    | succ i =>
      have := ih i (by simpa using h)
      simp only [List.set_cons_succ, rawQ, List.length_cons, List.getD_cons_succ, List.length_set]
      rw [this, show ((t.length + 1 : Nat) : Int) - ((i + 1 : Nat) : Int) = (t.length : Int) - i from by omega]
      omega
theorem rawP_bounds {xs : List Int} (h : Bys xs) : 1 ≤ rawP xs ∧ rawP xs ≤ 1 + 255 * xs.length := by
  induction xs with
  | nil => simp [rawP]
  | cons x t ih =>
    have hx := h x (by simp)
    have ht := ih (fun y hy => h y (by simp [hy]))
    simp only [rawP, List.length_cons]; omega

/-- One byte that is another one is seen. -/
theorem sumS_set {xs : List Int} (i : Nat) (y : Int) (h : i < xs.length) (hb : Bys xs) (hy : 0 ≤ y ∧ y < 256) : sumS (xs.set i y) = sumS xs ↔ y = xs.getD i 0 := by
  have hx := hb.at i
  rw [sumS_inj, adl_raw, adl_raw, rawP_set xs i y h, rawQ_set xs i y h]
  constructor
  · intro e
    have := (Prod.mk.inj e).1
    omega
  · intro e; rw [e]; simp
/-- Two that are exchanged are seen. -/
theorem sumS_swap {xs : List Int} (i k : Nat) (hi : i < xs.length) (hk : k < xs.length) (hl : xs.length ≤ 200) (hb : Bys xs) : sumS ((xs.set i (xs.getD k 0)).set k (xs.getD i 0)) = sumS xs ↔ xs.getD i 0 = xs.getD k 0 := by
  have hx := hb.at i
  have hy := hb.at k
  have hk' : k < (xs.set i (xs.getD k 0)).length := by simpa using hk
  have hg : (xs.set i (xs.getD k 0)).getD k 0 = xs.getD k 0 := by
    by_cases e : i = k
    · subst e; simp [List.getD, hi]
    · simp [List.getD, List.getElem?_set_ne e]
  by_cases hik : i = k
  · subst hik
    have e : (xs.set i (xs.getD i 0)).set i (xs.getD i 0) = xs := by
      rw [List.set_set]
      simp [List.getD, List.getElem?_eq_getElem hi]
    rw [e]; simp
  rw [sumS_inj, adl_raw, adl_raw, rawP_set _ k _ hk', rawQ_set _ k _ hk', rawP_set xs i _ hi, rawQ_set xs i _ hi, hg, List.length_set]
  generalize xs.getD i 0 = x at *
  generalize xs.getD k 0 = y at *
  generalize xs.length = n at *
  have e : ((n : Int) - i) * (y - x) + ((n : Int) - k) * (x - y) = ((k : Int) - i) * (y - x) := by
    have : ((n : Int) - k) * (x - y) = -(((n : Int) - k) * (y - x)) := by rw [← Int.mul_neg]; congr 1; omega
    rw [this, ← Int.sub_eq_add_neg, ← Int.sub_mul]; congr 1; omega
  constructor
  · intro h
    have h2 := (Prod.mk.inj h).2
    rw [Int.add_assoc, e] at h2
    have hab : (((k : Int) - i) * (y - x)).natAbs ≤ 199 * 255 := by rw [Int.natAbs_mul]; exact Nat.mul_le_mul (by omega) (by omega)
    have h0 : ((k : Int) - i) * (y - x) = 0 := by omega
    rcases Int.mul_eq_zero.1 h0 with h3 | h3
    · omega
    · omega
  · intro h; subst h; simp
theorem sumS_more {xs : List Int} (x : Int) (hb : Bys xs) (hx : 0 ≤ x ∧ x < 256) (hl : xs.length ≤ 200) : sumS (xs ++ [x]) ≠ sumS xs := by
  have hp := rawP_bounds hb
  rw [Ne, sumS_inj, adl_raw, adl_raw, rawP_snoc, rawQ_snoc]
  intro e
  have h1 := (Prod.mk.inj e).1
  have h2 := (Prod.mk.inj e).2
  omega
theorem adl_parts (xs ys : List Int) : adl (xs ++ ys) = (((adl xs).1 + (adl ys).1 + 65520) % 65521, ((adl xs).2 + (adl ys).2 + ys.length * ((adl xs).1 + 65520)) % 65521) := by
  rw [adl_raw, adl_raw, adl_raw, rawP_app, rawQ_app]
  refine Prod.ext (by simp only; omega) ?_
  simp only
  have hm : ((ys.length : Int) * (rawP xs - 1)) % 65521 = ((ys.length : Int) * (rawP xs % 65521 + 65520)) % 65521 := by
    rw [Int.mul_emod, Int.mul_emod (ys.length : Int) (rawP xs % 65521 + 65520)]
    congr 2; omega
  omega
theorem adl_zeros (n : Nat) : adl (List.replicate n 0) = (1, (n : Int) % 65521) := by
  rw [adl_raw]
  have h : rawP (List.replicate n 0) = 1 ∧ rawQ (List.replicate n 0) = n := by
    induction n with
    | zero => simp [rawP, rawQ]
    | succ n ih => simp [List.replicate_succ, rawP, rawQ, ih.1, ih.2]; omega
  rw [h.1, h.2]; rfl
end Go.Proofs.Ytgkgbbffgcmekaa
