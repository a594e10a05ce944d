/-
  Plain matter of garretlaw04.NorBits.
-/
import Derived.Test.YtnlfhapnclfonaaTornP
namespace Go.Proofs.Ytnlfhapnclfonaa
open Go.RowKit
set_option linter.unusedVariables false

def mayTo (a b : List Int) : Nat → Bool
  | 0 => true
  | k + 1 => mayTo a b k && (bits .and .u8 (b.getD k 0) (wasS a k) == b.getD k 0)
theorem mayTo_iff {a b : List Int} (hb : Bys b) (k : Nat) : mayTo a b k = true ↔ ∀ j, j < k → bits .andNot .u8 (b.getD j 0) (wasS a j) = 0 := by
  induction k with
  | zero => simp [mayTo]
  | succ k ih =>
    rw [mayTo, and_eq_iff (hb.at k), Bool.and_eq_true, ih]
    constructor
    · rintro ⟨h1, h2⟩ j hj
      by_cases e : j = k
      · subst e; simpa using h2
      · exact h1 j (by omega)
    · intro h
      exact ⟨fun j hj => h j (by omega), by simpa using h k (by omega)⟩
theorem sets_iff (bs : List Int) (p : Nat) (b : List Int) : sets bs p b = false ↔ ∀ j, j < b.length → bits .andNot .u8 (b.getD j 0) (bs.getD (p + j) 0) = 0 := by
  refine ⟨fun h => ?_, sets_false bs p b⟩
  induction b generalizing p with
  | nil => intro j hj; simp at hj
  | cons x r ih =>
    simp only [sets, Bool.or_eq_false_iff] at h
    intro j hj
    cases j with
    | zero => simpa using h.1
    | succ j =>
      have := ih (p + 1) h.2 j (by simpa using hj)
      simpa [Nat.add_assoc, Nat.add_comm 1 j] using this

theorem progA_at (S : PSt) (bs : List Int) (P : Nat) (b : List Int) (h1 : S.off = false) (h2 : S.armed = false) (hl : P + b.length ≤ bs.length) :
    progA S bs P b = if sets bs P b then (9, S, bs) else (0, { S with steps := S.steps + b.length }, over bs P b) := by
  have h : hasS bs.length P b.length = true := by simp [hasS]; omega
  unfold progA
  rw [h, if_pos rfl, Int.toNat_natCast, progS_free S bs P b h1 h2]

theorem bits_plain (A B P : Nat) (a b bs : List Int) (hA : 2 ≤ A) (hB : 256 ≤ B) (hP : P + 200 ≤ A * B) (ha : a.length ≤ 200) (hb : b.length ≤ 200) (hba : Bys a) (hbb : Bys b) (hbs : bs = List.replicate (A * B) 255) :
    ∃ (S1 S2 : PSt) (bs1 bs2 : List Int), progA PSt.zero bs P a = (0, S1, bs1) ∧ progA S1 bs1 P b = (if mayTo a b b.length then 0 else 9, S2, bs2) ∧ bs1.length = A * B ∧ bs2.length = A * B ∧ S1.step.1 = true ∧ S2.step.1 = true := by
  have hlb : bs.length = A * B := by rw [hbs]; simp
  have hga : ∀ j, j < A * B → bs.getD j 0 = 255 := fun j hj => by rw [hbs]; exact rep_at _ j hj
  have hs1 : sets bs P a = false := sets_false _ _ _ (fun j hj => by rw [hga _ (by omega)]; exact not_255 _)
  have p1 := progA_at PSt.zero bs P a rfl rfl (by omega)
  rw [hs1, if_neg (by simp)] at p1
  have hl1 : (over bs P a).length = A * B := by rw [over_length]; exact hlb
  have p2 := progA_at { PSt.zero with steps := PSt.zero.steps + a.length } (over bs P a) P b rfl rfl (by omega)
  have g1 : ∀ j, P + j < A * B → (over bs P a).getD (P + j) 0 = wasS a j := by
    intro j hj
    rw [over_at _ _ _ _ (by omega)]
    unfold wasS
    by_cases h : j < a.length
    · rw [if_pos (by omega), if_pos h, Nat.add_sub_cancel_left]
    · rw [if_neg (by omega), if_neg h, hga _ hj]
  have hse : sets (over bs P a) P b = !mayTo a b b.length := by
    cases hm : mayTo a b b.length with
    | true =>
      have := (mayTo_iff hbb b.length).1 hm
      exact (sets_iff _ _ _).2 (fun j hj => by rw [g1 j (by omega)]; exact this j hj)
    | false =>
      cases hs : sets (over bs P a) P b with
      | true => rfl
      | false =>
        have h := (sets_iff _ _ _).1 hs
        have : mayTo a b b.length = true := (mayTo_iff hbb b.length).2 (fun j hj => by rw [← g1 j (by omega)]; exact h j hj)
        rw [hm] at this; cases this
  rw [hse] at p2
  cases hm : mayTo a b b.length with
  | true =>
    rw [hm] at p2
    simp only [Bool.not_true, Bool.false_eq_true, if_false] at p2
    exact ⟨_, _, _, _, p1, by rw [p2]; rfl, hl1, by rw [over_length]; exact hl1, rfl, rfl⟩
  | false =>
    rw [hm] at p2
    simp only [Bool.not_false, if_true] at p2
    exact ⟨_, _, _, _, p1, by rw [p2]; rfl, hl1, hl1, rfl, rfl⟩

theorem take_fill (bs : List Int) (p n : Nat) (m : Int) (hl : p + n ≤ bs.length) : (fill bs p m n).take p = bs.take p := by
  apply List.ext_getElem
  · simp [fill_length]
  · intro i h1 h2
    simp at h1 h2
    have e := fill_at bs p m n i hl
    rw [if_neg (by omega)] at e
    have l1 : i < (fill bs p m n).length := by rw [fill_length]; omega
    simp only [List.getElem_take]
    rw [show (fill bs p m n).getD i 0 = (fill bs p m n)[i] from by simp [List.getD, List.getElem?_eq_getElem l1], show bs.getD i 0 = bs[i] from by simp [List.getD, List.getElem?_eq_getElem (show i < bs.length by omega)]] at e
    exact e
theorem own_fill {bs : List Int} (hb : Bys bs) (p n k : Nat) (hl : p + n ≤ bs.length) (hk : k < n) : (((fill bs p 255 n).drop p).take n).getD k 0 = 255 := by
  rw [getD_take _ _ _ hk]
  have e := fill_at bs p 255 n (p + k) hl
  rw [if_pos (by omega), or_255 (hb.at _)] at e
  simpa [List.getD] using e
theorem readS_part (bs : List Int) (p n : Nat) (hl : p + n ≤ bs.length) : readS bs p n = (0, (bs.drop p).take n) := by
  unfold readS
  have h : hasS bs.length p n = true := by simp [hasS]; omega
  rw [h, if_pos rfl]
  simp
theorem cut_big (c : Int) (n : Nat) (h : 0 < n) (hn : n ≤ 1000000) : ∃ k : Nat, k < n ∧ wrap64 ((IntKind.u64.wrap c).tmod (n : Int)) = (k : Int) := by
  have h0 : 0 ≤ c % 18446744073709551616 % (n : Int) := Int.emod_nonneg _ (by omega)
  have h1 : c % 18446744073709551616 % (n : Int) < n := Int.emod_lt_of_pos _ (by omega)
  refine ⟨((c % 18446744073709551616) % (n : Int)).toNat, by omega, ?_⟩
  rw [IntKind.wrap_u64, Int.tmod_eq_emod_of_nonneg (Int.emod_nonneg _ (by omega)), IntWalk.wrap64_in _ (by omega)]
  omega
end Go.Proofs.Ytnlfhapnclfonaa
