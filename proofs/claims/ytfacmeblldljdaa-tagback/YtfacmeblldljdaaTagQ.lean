/-
  Plain laws on tags: what is written is read; what one byte does; tags that are written alike.
-/
import Derived.Test.YtfacmeblldljdaaTagP
import Derived.Test.YtfacmeblldljdaaTexts
namespace Go.Proofs.Ytfacmeblldljdaa
open Go.RowKit
set_option linter.unusedVariables false

theorem num4 {v : Int} (h : 0 ≤ v ∧ v < 4294967296) : num (low v 4) = v := by
  rw [num_low]; exact Int.emod_eq_of_lt h.1 (by show v < 4294967296; omega)
theorem getS_tag {a b s c : Int} (ha : 0 ≤ a ∧ a < 4294967296) (hb : 0 ≤ b ∧ b < 4294967296) (hs : 0 ≤ s ∧ s < 4294967296) (hc : 0 ≤ c ∧ c < 4294967296) :
    (getS (tag12 a b s ++ low c 4) 0 4).1 = a ∧ (getS (tag12 a b s ++ low c 4) 4 4).1 = b ∧ (getS (tag12 a b s ++ low c 4) 8 4).1 = s ∧ (getS (tag12 a b s ++ low c 4) 12 4).1 = c := by
  have e0 : tag12 a b s ++ low c 4 = [] ++ (low a 4 ++ (low b 4 ++ low s 4 ++ low c 4)) := by simp [tag12]
  have e1 : tag12 a b s ++ low c 4 = low a 4 ++ (low b 4 ++ (low s 4 ++ low c 4)) := by simp [tag12]
  have e2 : tag12 a b s ++ low c 4 = (low a 4 ++ low b 4) ++ (low s 4 ++ low c 4) := by simp [tag12]
  have e3 : tag12 a b s ++ low c 4 = tag12 a b s ++ (low c 4 ++ []) := by simp
  have l1 : (low a 4).length = 4 := low_length _ _
  have l2 : (low a 4 ++ low b 4).length = 8 := by simp [low_length]
  refine ⟨?_, ?_, ?_, ?_⟩
  · have h := getS_in (pre := []) (mid := low a 4) (post := low b 4 ++ low s 4 ++ low c 4) (n := 4) (by rw [low_length]; rfl) (by omega) (by omega)
    rw [e0, show (0 : Int) = ((([] : List Int).length : Nat) : Int) from rfl, h, num4 ha]
  · have h := getS_in (pre := low a 4) (mid := low b 4) (post := low s 4 ++ low c 4) (n := 4) (by rw [low_length]; rfl) (by omega) (by omega)
    rw [l1] at h
    rw [e1]
    exact (congrArg Prod.fst h).trans (num4 hb)
  · have h := getS_in (pre := low a 4 ++ low b 4) (mid := low s 4) (post := low c 4) (n := 4) (by rw [low_length]; rfl) (by omega) (by omega)
    rw [l2] at h
    rw [e2]
    exact (congrArg Prod.fst h).trans (num4 hs)
  · have h := getS_in (pre := tag12 a b s) (mid := low c 4) (post := []) (n := 4) (by rw [low_length]; rfl) (by omega) (by omega)
    rw [tag12_length] at h
    rw [e3]
    exact (congrArg Prod.fst h).trans (num4 hc)
theorem tagW_take (a b s : Int) : (tagW a b s).take 12 = tag12 a b s := by
  unfold tagW
  rw [← tag12_length a b s, List.take_left]
theorem readS_tagW {a b s : Int} (ha : inNum a = true) (hb : inNum b = true) (hs : 0 ≤ s ∧ s < 4294967296) : readS (tagW a b s) = ((a, b, s), 0) := by
  have ha' : 0 ≤ a ∧ a ≤ 2147483647 := by simpa [inNum] using ha
  have hb' : 0 ≤ b ∧ b ≤ 2147483647 := by simpa [inNum] using hb
  have h := getS_tag (a := a) (b := b) (s := s) (c := sumS (tag12 a b s)) (by omega) (by omega) hs (sumS_range _)
  unfold readS
  rw [if_neg (by rw [tagW_length]; simp), tagW_take]
  unfold tagW
  rw [h.1, h.2.1, h.2.2.1, h.2.2.2, if_neg (by simp), if_neg (by omega)]
theorem tagW_bys (a b s : Int) : Bys (tagW a b s) := (((low_bys _ _).app (low_bys _ _)).app (low_bys _ _)).app (low_bys _ _)
/-- Tags that are written alike are one. -/
theorem tagW_inj {a b s a' b' s' : Int} (ha : inNum a = true) (hb : inNum b = true) (hs : 0 ≤ s ∧ s < 4294967296) (ha' : inNum a' = true) (hb' : inNum b' = true) (hs' : 0 ≤ s' ∧ s' < 4294967296) (h : tagW a b s = tagW a' b' s') : a = a' ∧ b = b' ∧ s = s' := by
  have h1 := readS_tagW ha hb hs
  rw [h, readS_tagW ha' hb' hs'] at h1
  simp at h1
  exact ⟨h1.1.symm, h1.2.1.symm, h1.2.2.symm⟩
end Go.Proofs.Ytfacmeblldljdaa
