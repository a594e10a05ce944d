/-
  Reading at a place, and decoding what is left: the same.
-/
import Derived.Test.YtgkmgpjhpplkiaaPackR
import Derived.Test.YtgkmgpjhpplkiaaPackP
namespace Go.Proofs.Ytgkmgpjhpplkiaa
open Go.RowKit
set_option linter.unusedVariables false
set_option maxRecDepth 100000

theorem getS_inP {xs : List Int} {a n : Nat} (h1 : 1 ≤ n) (h8 : n ≤ 8) (h : a + n ≤ xs.length) : getS xs a n = (num ((xs.drop a).take n), 0) := by
  unfold getS
  rw [if_neg (by omega), if_neg (by omega)]
  simp
theorem getS_outP {xs : List Int} {a n : Nat} (h1 : 1 ≤ n) (h8 : n ≤ 8) (h : ¬ a + n ≤ xs.length) : getS xs a n = (0, 3) := by
  unfold getS
  rw [if_neg (by omega), if_pos (by omega)]

theorem rdNum_some {xs : List Int} {a : Nat} {b : Bool} {v : Int} {ys : List Int} (h : num8 (xs.drop a) = some (v, ys)) : rdNum xs ⟨a, b⟩ = (v, ⟨((a + 8 : Nat) : Int), b⟩) ∧ ys = xs.drop (a + 8) ∧ a + 8 ≤ xs.length := by
  unfold num8 at h
  rw [List.length_drop] at h
  split at h
  · cases h
  · rename_i hl
    have hh : a + 8 ≤ xs.length := by omega
    have e := getS_inP (xs := xs) (a := a) (n := 8) (by omega) (by omega) hh
    simp only [Option.some.injEq, Prod.mk.injEq] at h
    obtain ⟨rfl, rfl⟩ := h
    refine ⟨?_, by rw [List.drop_drop], hh⟩
    unfold rdNum
    have e' : getS xs ((⟨(a : Int), b⟩ : Rd).at_) 8 = (num ((xs.drop a).take 8), 0) := e
    rw [e']
    simp
theorem rdNum_none {xs : List Int} {a : Nat} {b : Bool} (h : num8 (xs.drop a) = none) : (rdNum xs ⟨a, b⟩).2.bad = true := by
  unfold num8 at h
  rw [List.length_drop] at h
  split at h
  · rename_i hl
    have e' : getS xs ((⟨(a : Int), b⟩ : Rd).at_) 8 = (0, 3) := getS_outP (xs := xs) (a := a) (n := 8) (by omega) (by omega) (by omega)
    unfold rdNum
    rw [e']
    simp
  · cases h
theorem rdMany_some {xs : List Int} {a : Nat} {b : Bool} {n : Nat} {ys : List Int} (hb : Bys xs) (h : cnt4 (xs.drop a) = some (n, ys)) : rdMany xs ⟨a, b⟩ = ((n : Int), ⟨((a + 4 : Nat) : Int), b⟩) ∧ ys = xs.drop (a + 4) ∧ a + 4 ≤ xs.length := by
  unfold cnt4 at h
  rw [List.length_drop] at h
  split at h
  · cases h
  · rename_i hl
    have hh : a + 4 ≤ xs.length := by omega
    have e' : getS xs ((⟨(a : Int), b⟩ : Rd).at_) 4 = (num ((xs.drop a).take 4), 0) := getS_inP (xs := xs) (a := a) (n := 4) (by omega) (by omega) hh
    have h0 := (num_range ((hb.drop a).take 4)).1
    simp only [Option.some.injEq, Prod.mk.injEq] at h
    obtain ⟨rfl, rfl⟩ := h
    refine ⟨?_, by rw [List.drop_drop], hh⟩
    unfold rdMany
    rw [e', Int.toNat_of_nonneg h0]
    simp
theorem rdMany_none {xs : List Int} {a : Nat} {b : Bool} (h : cnt4 (xs.drop a) = none) : (rdMany xs ⟨a, b⟩).2.bad = true := by
  unfold cnt4 at h
  rw [List.length_drop] at h
  split at h
  · rename_i hl
    have e' : getS xs ((⟨(a : Int), b⟩ : Rd).at_) 4 = (0, 3) := getS_outP (xs := xs) (a := a) (n := 4) (by omega) (by omega) (by omega)
    unfold rdMany
    rw [e']
    simp
  · cases h
theorem rdText_some {xs : List Int} {a : Nat} {b : Bool} {s : ByteArray} {ys : List Int} (hb : Bys xs) (h : txtD (xs.drop a) = some (s, ys)) : ∃ l : List Int, strOfNums l = s ∧ ∃ a' : Nat, rdText xs ⟨a, b⟩ = (l, ⟨(a' : Int), b⟩) ∧ ys = xs.drop a' ∧ a + 4 ≤ a' ∧ a' ≤ xs.length := by
  unfold txtD lenD at h
  cases hc : cnt4 (xs.drop a) with
  | none => rw [hc] at h; cases h
  | some p =>
    obtain ⟨n, zs⟩ := p
    obtain ⟨h1, h2, h3⟩ := rdMany_some (b := b) hb hc
    rw [hc, Option.bind_some] at h
    dsimp only at h
    unfold bytesD at h
    have e' : getS xs ((⟨(a : Int), b⟩ : Rd).at_) 4 = (num ((xs.drop a).take 4), 0) := getS_inP (xs := xs) (a := a) (n := 4) (by omega) (by omega) h3
    have en : num ((xs.drop a).take 4) = (n : Int) := by
      have := congrArg Prod.fst h1
      unfold rdMany at this
      rw [e'] at this
      exact this
    rw [en] at e'
    subst h2
    rw [List.length_drop] at h
    split at h
    · cases h
    · rename_i hl
      simp only [Option.some.injEq, Prod.mk.injEq] at h
      obtain ⟨hs, rfl⟩ := h
      refine ⟨_, hs, a + 4 + n, ?_, by rw [List.drop_drop], by omega, by omega⟩
      unfold rdText textS
      rw [e']
      dsimp only
      rw [if_neg (by simp), if_neg (by omega)]
      simp
theorem rdText_none {xs : List Int} {a : Nat} {b : Bool} (hb : Bys xs) (h : txtD (xs.drop a) = none) : (rdText xs ⟨a, b⟩).2.bad = true := by
  unfold txtD lenD at h
  cases hc : cnt4 (xs.drop a) with
  | none =>
    unfold cnt4 at hc
    rw [List.length_drop] at hc
    split at hc
    · have e' : getS xs ((⟨(a : Int), b⟩ : Rd).at_) 4 = (0, 3) := getS_outP (xs := xs) (a := a) (n := 4) (by omega) (by omega) (by omega)
      unfold rdText textS
      rw [e']
      simp
    · cases hc
  | some p =>
    obtain ⟨n, zs⟩ := p
    obtain ⟨h1, h2, h3⟩ := rdMany_some (b := b) hb hc
    rw [hc, Option.bind_some] at h
    dsimp only at h
    unfold bytesD at h
    have e' : getS xs ((⟨(a : Int), b⟩ : Rd).at_) 4 = (num ((xs.drop a).take 4), 0) := getS_inP (xs := xs) (a := a) (n := 4) (by omega) (by omega) h3
    have en : num ((xs.drop a).take 4) = (n : Int) := by
      have := congrArg Prod.fst h1
      unfold rdMany at this
      rw [e'] at this
      exact this
    rw [en] at e'
    subst h2
    rw [List.length_drop] at h
    split at h
    · unfold rdText textS
      rw [e']
      dsimp only
      rw [if_neg (by simp), if_pos (by omega)]
      simp
    · cases h
end Go.Proofs.Ytgkmgpjhpplkiaa
