/-
  Plain laws on tags: one byte that is another one; a blank spare area.
-/
import Derived.Test.YtfacmeblldljdaaTagQ
namespace Go.Proofs.Ytfacmeblldljdaa
open Go.RowKit
set_option linter.unusedVariables false

theorem getS12 {xs : List Int} (h : xs.length = 16) : (getS xs 12 4).1 = num (xs.drop 12) := by
  unfold getS
  rw [if_neg (by omega), if_neg (by omega)]
  show num ((xs.drop 12).take 4) = _
  rw [List.take_of_length_le (by rw [List.length_drop]; omega)]
theorem num_inj {xs ys : List Int} (hx : Bys xs) (hy : Bys ys) (hl : xs.length = ys.length) (h : num xs = num ys) : xs = ys := by
  rw [← low_num hx, ← low_num hy, h, hl]
theorem bys_set {xs : List Int} (h : Bys xs) (k : Nat) {z : Int} (hz : 0 ≤ z ∧ z < 256) : Bys (xs.set k z) := by
  intro x hx
  rcases List.mem_or_eq_of_mem_set hx with h' | rfl
  · exact h x h'
  · exact hz
theorem readS_spoilt {a b s z : Int} {k : Nat} (ha : inNum a = true) (hb : inNum b = true) (hs : 0 ≤ s ∧ s < 4294967296) (hk : k < 16) (hz : 0 ≤ z ∧ z < 256) (hne : ¬ z = (tagW a b s).getD k 0) : readS ((tagW a b s).set k z) = ((0, 0, 0), 4) := by
  have ha' : 0 ≤ a ∧ a ≤ 2147483647 := by simpa [inNum] using ha
  have hb' : 0 ≤ b ∧ b ≤ 2147483647 := by simpa [inNum] using hb
  have hl := tagW_length a b s
  have hby := tagW_bys a b s
  have h12 : num ((tagW a b s).drop 12) = sumS ((tagW a b s).take 12) := by
    rw [← getS12 hl, tagW_take]
    exact (getS_tag (by omega) (by omega) hs (sumS_range _)).2.2.2
  generalize tagW a b s = xs at *
  have hl2 : (xs.set k z).length = 16 := by rw [List.length_set]; exact hl
  unfold readS
  rw [if_neg (by omega), getS12 hl2, if_pos]
  by_cases h : k < 12
  · rw [List.take_set, List.drop_set, if_pos h, h12]
    intro e
    have := (sumS_set k z (by rw [List.length_take]; omega) (hby.take 12) hz).1 e
    refine hne (this.trans ?_)
    simp [List.getD, h]
  · have e1 : (xs.set k z).take 12 = xs.take 12 := by rw [List.take_set_of_le (by omega)]
    rw [e1, List.drop_set, if_neg h, ← h12]
    intro e
    have e2 := num_inj (hby.drop 12) (bys_set (hby.drop 12) (k - 12) hz) (by rw [List.length_set]) e
    refine hne ?_
    have e3 : (xs.drop 12).getD (k - 12) 0 = z := by
      rw [e2]
      simp [List.getD, show k - 12 < xs.length - 12 by omega]
    rw [← e3]
    simp [List.getD, show 12 + (k - 12) = k by omega]
theorem set_same {xs : List Int} {k : Nat} (hk : k < xs.length) : xs.set k (xs.getD k 0) = xs := by
  simp [List.getD, List.getElem?_eq_getElem hk]
theorem readS_blank : readS (List.replicate 16 255) = ((0, 0, 0), 4) := by
  decide
/-- 'int(uint(c) % (1 << 31))'. -/
theorem cut31 (c : Int) : ∃ v, inNum v = true ∧ wrap64 ((IntKind.u64.wrap c).tmod 2147483648) = v := by
  refine ⟨_, ?_, rfl⟩
  rw [IntKind.wrap_u64, Int.tmod_eq_emod_of_nonneg (Int.emod_nonneg _ (by omega)), IntWalk.wrap64_in _ (by omega)]
  simp [inNum]; omega
theorem xor_seen6 (x y : Int) (hx : 0 ≤ x ∧ x < 256) (hy : 0 ≤ y ∧ y < 256) : (0 ≤ bits .xor .u8 x y ∧ bits .xor .u8 x y < 256) ∧ (bits .xor .u8 x y = x ↔ y = 0) := by
  rw [u8_xor x y hx.1 hx.2 hy.1 hy.2]
  obtain ⟨X, rfl⟩ := Int.eq_ofNat_of_zero_le hx.1
  obtain ⟨Y, rfl⟩ := Int.eq_ofNat_of_zero_le hy.1
  have hlt : X ^^^ Y < 2 ^ 8 := Nat.xor_lt_two_pow (by omega) (by omega)
  simp only [Int.toNat_natCast]
  refine ⟨by omega, ?_⟩
  constructor
  · intro h
    have h1 : X ^^^ Y = X := by omega
    have h2 : X ^^^ (X ^^^ Y) = 0 := by rw [h1, Nat.xor_self]
    rw [← Nat.xor_assoc, Nat.xor_self, Nat.zero_xor] at h2
    omega
  · intro h
    have : Y = 0 := by omega
    subst this
    simp

end Go.Proofs.Ytfacmeblldljdaa
