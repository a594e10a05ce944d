/-
  Plain matter of programs that go through, are torn, or find power off; bits.
-/
import Derived.Test.YtgkgbbffgcmekaaNorB
namespace Go.Proofs.Ytgkgbbffgcmekaa
open Go.RowKit
set_option linter.unusedVariables false

/-! ### bits -/
theorem ofInt_nat8 (v : BitVec 8) : BitVec.ofInt 8 (v.toNat : Int) = v := by
  rw [BitVec.ofInt_natCast]; simp
theorem u8_wrap (v : BitVec 8) : IntKind.u8.wrap (v.toNat : Int) = (v.toNat : Int) := by
  rw [IntKind.wrap_u8]
  have := v.isLt
  omega
theorem bits_and_bv (x y : Int) : bits .and .u8 x y = ((BitVec.ofInt 8 x &&& BitVec.ofInt 8 y).toNat : Int) := u8_wrap _
theorem bits_or_bv (x y : Int) : bits .or .u8 x y = ((BitVec.ofInt 8 x ||| BitVec.ofInt 8 y).toNat : Int) := u8_wrap _
theorem bits_not_bv (x y : Int) : bits .andNot .u8 x y = ((BitVec.ofInt 8 x &&& ~~~ BitVec.ofInt 8 y).toNat : Int) := u8_wrap _
theorem byte_bv {x : Int} (h : 0 ≤ x ∧ x < 256) : ((BitVec.ofInt 8 x).toNat : Int) = x := by
  obtain ⟨n, rfl⟩ := Int.eq_ofNat_of_zero_le h.1
  rw [BitVec.ofInt_natCast, BitVec.toNat_ofNat]
  omega
theorem not_of_and (x y : Int) : bits .andNot .u8 (bits .and .u8 x y) y = 0 := by
  rw [bits_not_bv, bits_and_bv, ofInt_nat8, BitVec.and_assoc, BitVec.and_not_self]
  simp
theorem not_self (x : Int) : bits .andNot .u8 x x = 0 := by
  rw [bits_not_bv, BitVec.and_not_self]; rfl
theorem not_255 (x : Int) : bits .andNot .u8 x 255 = 0 := by
  rw [bits_not_bv, show ~~~ BitVec.ofInt 8 255 = 0#8 from by decide, BitVec.and_zero]; rfl
theorem or_and_self {x : Int} (h : 0 ≤ x ∧ x < 256) (m : Int) : bits .or .u8 x (bits .and .u8 x m) = x := by
  rw [bits_or_bv, bits_and_bv, ofInt_nat8]
  have : BitVec.ofInt 8 x ||| BitVec.ofInt 8 x &&& BitVec.ofInt 8 m = BitVec.ofInt 8 x := by
    apply BitVec.eq_of_getLsbD_eq
    intro i hi
    simp
    cases (BitVec.ofInt 8 x).getLsbD i <;> simp
  rw [this, byte_bv h]
/-- 'No bit more' is 'and changes nothing'. -/
theorem and_eq_iff {x y : Int} (h : 0 ≤ x ∧ x < 256) : (bits .and .u8 x y == x) = !(bits .andNot .u8 x y != 0) := by
  have key : bits .and .u8 x y = x ↔ bits .andNot .u8 x y = 0 := by
    rw [bits_and_bv, bits_not_bv]
    constructor
    · intro e
      have e2 : BitVec.ofInt 8 x &&& BitVec.ofInt 8 y = BitVec.ofInt 8 x := by
        have := congrArg (BitVec.ofInt 8) e
        rwa [ofInt_nat8] at this
      rw [← e2, BitVec.and_assoc, BitVec.and_not_self]; simp
    · intro e
      have e2 : BitVec.ofInt 8 x &&& ~~~ BitVec.ofInt 8 y = 0#8 := by
        have := congrArg (BitVec.ofInt 8) e
        rwa [ofInt_nat8] at this
      have e3 : BitVec.ofInt 8 x &&& BitVec.ofInt 8 y = BitVec.ofInt 8 x := by
        apply BitVec.eq_of_getLsbD_eq
        intro i hi
        have := congrArg (fun v : BitVec 8 => v.getLsbD i) e2
        simp [hi] at this ⊢
        exact this
      rw [e3, byte_bv h]
  by_cases h0 : bits .andNot .u8 x y = 0
  · simp [h0, key.2 h0]
  · have h1 : ¬ bits .and .u8 x y = x := fun e => h0 (key.1 e)
    rw [show (bits .and .u8 x y == x) = false from by simpa using h1, show (bits .andNot .u8 x y != 0) = true from by simpa using h0]
    rfl

/-! ### no bit more -/
theorem sets_false (bs : List Int) (p : Nat) (b : List Int) (h : ∀ j, j < b.length → bits .andNot .u8 (b.getD j 0) (bs.getD (p + j) 0) = 0) : sets bs p b = false := by
  induction b generalizing p with
  | nil => rfl
  | cons x r ih =>
    simp only [sets]
    have h0 := h 0 (by simp)
    simp only [List.getD_cons_zero, Nat.add_zero] at h0
    rw [h0, ih (p + 1) (fun j hj => by
      have := h (j + 1) (by simpa using hj)
      simpa [Nat.add_assoc, Nat.add_comm 1 j] using this)]
    rfl

/-! ### what is over what -/
def over (bs : List Int) (p : Nat) : List Int → List Int
  | [] => bs
  | x :: r => over (bs.set p x) (p + 1) r
theorem over_length (bs : List Int) (p : Nat) (b : List Int) : (over bs p b).length = bs.length := by
  induction b generalizing bs p with
  | nil => rfl
  | cons x r ih => simp [over, ih]
theorem over_at (bs : List Int) (p : Nat) (b : List Int) (j : Nat) (hl : p + b.length ≤ bs.length) : (over bs p b).getD j 0 = if p ≤ j ∧ j < p + b.length then b.getD (j - p) 0 else bs.getD j 0 := by
  induction b generalizing bs p with
  | nil => simp [over]; intro h1 h2; omega
  | cons x r ih =>
    simp only [List.length_cons] at hl
    rw [over, ih _ _ (by simp; omega), getD_set]
    by_cases h1 : p + 1 ≤ j ∧ j < p + 1 + r.length
    · rw [if_pos h1, if_pos (by simp; omega)]
      obtain ⟨k, hk⟩ : ∃ k, j - p = k + 1 := ⟨j - p - 1, by omega⟩
      rw [hk, show j - (p + 1) = k from by omega]
      simp
    · rw [if_neg h1]
      by_cases h2 : p = j
      · subst h2
        rw [if_pos ⟨rfl, by omega⟩, if_pos (by simp)]
        simp
      · rw [if_neg (by omega), if_neg (by simp; omega)]
theorem over_bys {bs b : List Int} (h : Bys bs) (hb : Bys b) (p : Nat) : Bys (over bs p b) := by
  induction b generalizing bs p with
  | nil => exact h
  | cons x r ih => exact ih (h.set p (hb x (by simp))) (fun y hy => hb y (by simp [hy])) (p + 1)

/-- Power that is on and tears nothing. -/
theorem progS_free (S : PSt) (bs : List Int) (p : Nat) (b : List Int) (h1 : S.off = false) (h2 : S.armed = false) : progS S bs p b = (0, { S with steps := S.steps + b.length }, over bs p b) := by
  induction b generalizing S bs p with
  | nil => simp [progS, over]
  | cons x r ih =>
    obtain ⟨off, armed, left, mask, steps, fails⟩ := S
    simp only at h1 h2
    subst h1 h2
    simp only [progS]
    rw [show PSt.step ⟨false, false, left, mask, steps, fails⟩ = (true, false, ⟨false, false, left, mask, steps + 1, fails⟩) from rfl]
    simp only [if_true]
    rw [ih _ _ _ rfl rfl]
    simp [over]
    omega
/-- Power that will be torn. -/
theorem progS_torn (S : PSt) (bs : List Int) (p : Nat) (b : List Int) (c : Nat) (h1 : S.off = false) (h2 : S.armed = true) (h3 : S.left = c) :
    progS S bs p b = if b.length ≤ c then (0, { S with left := (c : Int) - b.length, steps := S.steps + b.length }, over bs p b)
      else (6, { S with off := true, left := 0, steps := S.steps + c }, (over bs p (b.take c)).set (p + c) (bits .or .u8 (b.getD c 0) (bits .and .u8 ((over bs p (b.take c)).getD (p + c) 0) S.mask))) := by
  induction b generalizing S bs p c with
  | nil =>
    obtain ⟨off, armed, left, mask, steps, fails⟩ := S
    simp only at h1 h2 h3
    subst h1 h2 h3
    simp [progS, over]
  | cons x r ih =>
    obtain ⟨off, armed, left, mask, steps, fails⟩ := S
    simp only at h1 h2 h3
    subst h1 h2 h3
    simp only [progS]
    cases c with
    | zero =>
      rw [show PSt.step ⟨false, true, ((0 : Nat) : Int), mask, steps, fails⟩ = (false, true, ⟨true, true, 0, mask, steps, fails⟩) from rfl]
      simp [over]
    | succ c =>
      have hst : PSt.step ⟨false, true, ((c + 1 : Nat) : Int), mask, steps, fails⟩ = (true, false, ⟨false, true, (c : Int), mask, steps + 1, fails⟩) := by
        unfold PSt.step
        have : (((c + 1 : Nat) : Int) == 0) = false := by rw [beq_eq_false_iff_ne]; omega
        simp only [Bool.false_eq_true, if_false, this, Bool.and_false, if_true]
        congr 2
        simp
      rw [hst]
      simp only [if_true]
      rw [ih _ _ _ c rfl rfl rfl]
      by_cases hl : r.length ≤ c
      · rw [if_pos hl, if_pos (by simpa using hl)]
        simp [over]
        omega
      · rw [if_neg hl, if_neg (by simpa using hl)]
        simp only [List.take_succ_cons, over, List.getD_cons_succ, show p + 1 + c = p + (c + 1) from by omega]
        simp
        omega
/-- Power that is off. -/
theorem progS_off (S : PSt) (bs : List Int) (p : Nat) (b : List Int) (h1 : S.off = true) (hb : b ≠ []) : progS S bs p b = (6, S, bs) := by
  cases b with
  | nil => exact absurd rfl hb
  | cons x r =>
    have hst : S.step = (false, false, S) := by unfold PSt.step; rw [if_pos h1]
    simp [progS, hst]
theorem over_self (bs : List Int) (p : Nat) (b : List Int) (hl : p + b.length ≤ bs.length) (h : ∀ j, j < b.length → b.getD j 0 = bs.getD (p + j) 0) : over bs p b = bs := by
  apply List.ext_getElem (over_length _ _ _)
  intro i h1 h2
  have e := over_at bs p b i hl
  rw [show (over bs p b).getD i 0 = (over bs p b)[i] from by simp [List.getD, List.getElem?_eq_getElem h1], show bs.getD i 0 = bs[i] from by simp [List.getD, List.getElem?_eq_getElem h2]] at e
  rw [e]
  split
  · rename_i hc
    rw [h (i - p) (by omega), show p + (i - p) = i from by omega]
    simp [List.getD, List.getElem?_eq_getElem h2]
  · rfl
end Go.Proofs.Ytgkgbbffgcmekaa
