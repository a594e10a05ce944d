/-
  Plain matter of EntriesFull: a hundred names of two letters.
-/
import Derived.Test.YtjmdinfdnjbcoaaEntQ
namespace Go.Proofs.Ytjmdinfdnjbcoaa
set_option linter.unusedVariables false

/-- The i-th name. -/
def fx (i : Nat) : ByteArray := ⟨#[UInt8.ofNat (97 + i / 26), UInt8.ofNat (97 + i % 26)]⟩
def fxE (i : Nat) : En := ⟨fx i, 5⟩
def fullE (k : Nat) : List En := (List.range k).map fxE
theorem fullE_length (k : Nat) : (fullE k).length = k := by simp [fullE]
theorem fullE_getD {k j : Nat} (h : j < k) : (fullE k).getD j default = fxE j := by simp [fullE, List.getD, h]
theorem fullE_succ (k : Nat) : fullE (k + 1) = fullE k ++ [fxE k] := by simp [fullE, List.range_succ]
theorem bl_fx (i : Nat) : bl (fx i) = [UInt8.ofNat (97 + i / 26), UInt8.ofNat (97 + i % 26)] := rfl
theorem u8_lt {a b : Nat} (hb : b < 256) (h : a < b) : UInt8.ofNat a < UInt8.ofNat b := by
  rw [UInt8.lt_iff_toNat_lt, UInt8.toNat_ofNat', UInt8.toNat_ofNat', Nat.mod_eq_of_lt (by omega), Nat.mod_eq_of_lt (by omega)]
  exact h
theorem fx_lt {i j : Nat} (h : i < j) (hj : j ≤ 100) : bl (fx i) < bl (fx j) := by
  rw [bl_fx, bl_fx, List.cons_lt_cons_iff]
  by_cases e : i / 26 = j / 26
  · right
    refine ⟨by rw [e], ?_⟩
    rw [List.cons_lt_cons_iff]
    exact .inl (u8_lt (by omega) (by omega))
  · exact .inl (u8_lt (by omega) (by omega))
theorem fx_zz {i : Nat} (h : i ≤ 100) : bl (fx i) < [122, 122] := by
  rw [bl_fx, List.cons_lt_cons_iff]
  exact .inl (u8_lt (b := 122) (by omega) (by omega))
theorem fx_right {i : Nat} (h : i ≤ 100) : rightN (bl (fx i)) = true := by
  rw [bl_fx]
  have a1 : UInt8.ofNat (97 + i / 26) ≠ 0 ∧ UInt8.ofNat (97 + i / 26) ≠ 47 ∧ UInt8.ofNat (97 + i / 26) ≠ 46 := by
    refine ⟨?_, ?_, ?_⟩ <;> (intro e; have := congrArg UInt8.toNat e; rw [UInt8.toNat_ofNat', Nat.mod_eq_of_lt (by omega)] at this; simp at this <;> omega)
  have a2 : UInt8.ofNat (97 + i % 26) ≠ 0 ∧ UInt8.ofNat (97 + i % 26) ≠ 47 := by
    refine ⟨?_, ?_⟩ <;> (intro e; have := congrArg UInt8.toNat e; rw [UInt8.toNat_ofNat', Nat.mod_eq_of_lt (by omega)] at this; simp at this <;> omega)
  unfold rightN
  rw [decide_eq_true_eq]
  refine ⟨by simp, by simp, ?_, ?_, by simp, ?_⟩
  · simp only [List.mem_cons, List.not_mem_nil, or_false, not_or]
    exact ⟨fun e => a1.1 e.symm, fun e => a2.1 e.symm⟩
  · simp only [List.mem_cons, List.not_mem_nil, or_false, not_or]
    exact ⟨fun e => a1.2.1 e.symm, fun e => a2.2 e.symm⟩
  · intro e
    simp only [List.cons.injEq] at e
    exact a1.2.2 e.1
theorem fullE_mem {k : Nat} {x : En} (h : x ∈ fullE k) : ∃ j, j < k ∧ x = fxE j := by
  obtain ⟨j, hj, rfl⟩ := List.mem_map.1 h
  exact ⟨j, List.mem_range.1 hj, rfl⟩
theorem fullE_none {k : Nat} (hk : k ≤ 100) : atS (fullE k) (bl (fx k)) = none := by
  refine atS_none.2 fun x hx e => ?_
  obtain ⟨j, hj, rfl⟩ := fullE_mem hx
  have := fx_lt hj hk
  rw [show bl (fx j) = bl (fx k) from e] at this
  exact txt_irrefl _ this
theorem fullE_above {k : Nat} (hk : k ≤ 100) : aboveS (fullE k) (bl (fx k)) = k := by
  refine above_is (by rw [fullE_length]; exact Nat.le_refl _) (fun j hj => ?_) (fun h => by rw [fullE_length] at h; omega)
  rw [fullE_getD hj]
  exact txt_asymm (fx_lt hj hk)
theorem full_add {k : Nat} (hk : k < 100) : addS (fullE k) ⟨fx k, 5⟩ = (fullE (k + 1), 0) := by
  have hok : okS (fullE k) ⟨fx k, 5⟩ = true := by
    unfold okS
    rw [show bl (⟨fx k, 5⟩ : En).s = bl (fx k) from rfl, fx_right (by omega), fullE_none (by omega), fullE_length, decide_eq_true hk]
    rfl
  rw [add_yes hok, show bl (⟨fx k, 5⟩ : En).s = bl (fx k) from rfl, fullE_above (by omega), fullE_succ]
  congr 1
  unfold insS
  rw [List.take_of_length_le (by rw [fullE_length]; exact Nat.le_refl _), List.drop_of_length_le (by rw [fullE_length]; exact Nat.le_refl _)]
  rfl
theorem full_big : addS (fullE 100) ⟨fx 100, 5⟩ = ([], 21) := by
  unfold addS
  rw [show bl (⟨fx 100, 5⟩ : En).s = bl (fx 100) from rfl, fx_right (by omega), fullE_none (by omega), fullE_length]
  rfl
theorem full_aa {k : Nat} (hk : 1 ≤ k) : addS (fullE k) ⟨⟨#[97, 97]⟩, 5⟩ = ([], 12) := by
  have : atS (fullE k) (bl ⟨#[97, 97]⟩) = some 0 := atS_some.2 ⟨by rw [fullE_length]; exact hk, by rw [fullE_getD hk]; rfl, fun j hj => by omega⟩
  unfold addS
  rw [show bl (⟨⟨#[97, 97]⟩, 5⟩ : En).s = bl ⟨#[97, 97]⟩ from rfl, show rightN (bl ⟨#[97, 97]⟩) = true by decide, this]
  rfl
theorem full_dots (k : Nat) : addS (fullE k) ⟨⟨#[46, 46]⟩, 5⟩ = ([], 17) := by
  unfold addS
  rw [show bl (⟨⟨#[46, 46]⟩, 5⟩ : En).s = bl ⟨#[46, 46]⟩ from rfl, show rightN (bl ⟨#[46, 46]⟩) = false by decide]
  rfl
theorem full_zz {k : Nat} (hk : k ≤ 100) : (addS (fullE k) ⟨⟨#[122, 122]⟩, 5⟩).2 = if k = 100 then 21 else 0 := by
  have hn : atS (fullE k) (bl ⟨#[122, 122]⟩) = none := by
    refine atS_none.2 fun x hx e => ?_
    obtain ⟨j, hj, rfl⟩ := fullE_mem hx
    have := fx_zz (i := j) (by omega)
    rw [show bl (fx j) = [122, 122] from e] at this
    exact txt_irrefl _ this
  unfold addS
  rw [show bl (⟨⟨#[122, 122]⟩, 5⟩ : En).s = bl ⟨#[122, 122]⟩ from rfl, show rightN (bl ⟨#[122, 122]⟩) = true by decide, hn, fullE_length]
  by_cases h : k = 100
  · subst h; rfl
  · rw [if_neg h]
    simp
    rw [if_neg (by omega)]
theorem full_zero (k : Nat) : addS (fullE k) ⟨⟨#[122, 122]⟩, 0⟩ = ([], 1) := by
  unfold addS
  rw [show bl (⟨⟨#[122, 122]⟩, 0⟩ : En).s = bl ⟨#[122, 122]⟩ from rfl, show rightN (bl ⟨#[122, 122]⟩) = true by decide]
  rfl
end Go.Proofs.Ytjmdinfdnjbcoaa
