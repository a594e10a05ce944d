/-
  Plain matter of garretlaw04.NorTorn.
-/
import Derived.Test.YtgkgbbffgcmekaaNorQ
import Derived.Test.YtgkgbbffgcmekaaNorK
namespace Go.Proofs.Ytgkgbbffgcmekaa
open Go.RowKit
set_option linter.unusedVariables false

def andTo (b a : List Int) : Nat → List Int
  | 0 => b
  | k + 1 => (andTo b a k).set k (bits .and .u8 ((andTo b a k).getD k 0) (a.getD k 0))
theorem andTo_length (b a : List Int) (k : Nat) : (andTo b a k).length = b.length := by
  induction k with
  | zero => rfl
  | succ k ih => simp [andTo, ih]
theorem andTo_bys {b : List Int} (h : Bys b) (a : List Int) (k : Nat) : Bys (andTo b a k) := by
  induction k with
  | zero => exact h
  | succ k ih => exact ih.set _ (bits_u8 _ _ _)
theorem andTo_at (b a : List Int) (k j : Nat) (hk : k ≤ b.length) : (andTo b a k).getD j 0 = if j < k then bits .and .u8 (b.getD j 0) (a.getD j 0) else b.getD j 0 := by
  induction k generalizing j with
  | zero => simp [andTo]
  | succ k ih =>
    rw [andTo, getD_set, ih _ (by omega), ih _ (by omega), andTo_length]
    by_cases h : k = j
    · subst h
      rw [if_pos ⟨rfl, by omega⟩, if_neg (by omega), if_pos (by omega)]
    · rw [if_neg (by omega)]
      by_cases h2 : j < k
      · rw [if_pos h2, if_pos (by omega)]
      · rw [if_neg h2, if_neg (by omega)]

theorem progA_in (S : PSt) (bs : List Int) (b : List Int) (hl : b.length ≤ bs.length) (h : ∀ j, j < b.length → bits .andNot .u8 (b.getD j 0) (bs.getD j 0) = 0) : progA S bs 0 b = progS S bs 0 b := by
  have h1 : hasS bs.length 0 b.length = true := by simp [hasS]; omega
  have h2 : sets bs 0 b = false := sets_false bs 0 b (fun j hj => by rw [Nat.zero_add]; exact h j hj)
  unfold progA
  rw [h1, if_pos rfl, show ((0 : Int).toNat) = 0 from rfl, h2]
  rfl

/-- What was there. -/
def wasS (a : List Int) (k : Nat) : Int := if k < a.length then a.getD k 0 else 255
def wantS (a x : List Int) (cut : Nat) (mask : Int) (k : Nat) : Int :=
  if k < x.length ∧ k < cut then x.getD k 0 else if k < x.length ∧ k = cut then bits .or .u8 (x.getD k 0) (bits .and .u8 (wasS a k) mask) else wasS a k

theorem getD_take (xs : List Int) (n j : Nat) (h : j < n) : (xs.take n).getD j 0 = xs.getD j 0 := by simp [List.getD, h]

/-- A torn program of what is there turns nothing. -/
theorem again_same (S : PSt) (bs : List Int) (c : Nat) (h1 : S.off = false) (h2 : S.armed = true) (h3 : S.left = c) (hc : c < 120) (hl : 120 ≤ bs.length) (hb : Bys bs) :
    progA S bs 0 (bs.take 120) = (6, { S with off := true, left := 0, steps := S.steps + c }, bs) := by
  have hlt : (bs.take 120).length = 120 := by simp; omega
  rw [progA_in S bs _ (by omega) (fun j hj => by rw [getD_take _ _ _ (by omega)]; exact not_self _), progS_torn S bs 0 _ c h1 h2 h3, if_neg (by omega)]
  have e1 : over bs 0 ((bs.take 120).take c) = bs := by
    refine over_self _ _ _ (by simp; omega) (fun j hj => ?_)
    simp at hj
    rw [getD_take _ _ _ (by omega), getD_take _ _ _ (by omega), Nat.zero_add]
  rw [e1, getD_take _ _ _ (by omega), Nat.zero_add, or_and_self (hb.at c)]
  have e2 : bs.set c (bs.getD c 0) = bs := by
    apply List.ext_getElem (by simp)
    intro i hi1 hi2
    rw [List.getElem_set]
    split
    · rename_i h; subst h; simp [List.getD, List.getElem?_eq_getElem hi2]
    · rfl
  rw [e2]

theorem torn_plain (n : Nat) (a b : List Int) (cut : Nat) (mask : Int) (hn : 512 ≤ n) (ha : a.length ≤ 100) (hb : b.length ≤ 100) (hc : cut < 110) (hA : Bys a) (hB : Bys b) (x : List Int) (hx : x = andTo b a (min b.length a.length)) (bs : List Int) (hbs : bs = List.replicate n 255) :
    ∃ (S1 S2 S3 : PSt) (bs1 bs2 : List Int) (f : Int),
      progA PSt.zero bs 0 a = (0, S1, bs1) ∧ progA (S1.cut cut mask) bs1 0 x = (f, S2, bs2) ∧ ((f = 0 ∧ b.length ≤ cut) ∨ (f = 6 ∧ cut < b.length)) ∧
      bs1.length = n ∧ bs2.length = n ∧ (∀ k, k < 120 → bs2.getD k 0 = wantS a x cut mask k) ∧
      progA S2 bs2 0 (bs2.take 120) = (6, S3, bs2) ∧ (S3.on.cut 0 mask).step = (false, true, { S3.on.cut 0 mask with off := true }) := by
  have hlb : bs.length = n := by rw [hbs]; simp
  have hbb : Bys bs := by rw [hbs]; intro z hz; simp at hz; omega
  have hga : ∀ j, j < n → bs.getD j 0 = 255 := fun j hj => by rw [hbs]; exact rep_at n j hj
  have hxl : x.length = b.length := by rw [hx, andTo_length]
  have hxb : Bys x := by rw [hx]; exact andTo_bys hB a _
  have p1 : progA PSt.zero bs 0 a = (0, { PSt.zero with steps := PSt.zero.steps + a.length }, over bs 0 a) := by
    rw [progA_in _ _ _ (by omega) (fun j hj => by rw [hga j (by omega)]; exact not_255 _), progS_free _ _ _ _ rfl rfl]
  have hl1 : (over bs 0 a).length = n := by rw [over_length]; exact hlb
  have hb1 := over_bys hbb hA 0
  have g1 : ∀ j, j < n → (over bs 0 a).getD j 0 = wasS a j := by
    intro j hj
    rw [over_at _ _ _ _ (by omega)]
    unfold wasS
    by_cases h : j < a.length
    · rw [if_pos (by omega), if_pos h, Nat.sub_zero]
    · rw [if_neg (by omega), if_neg h, hga j hj]
  have hxw : ∀ j, j < x.length → bits .andNot .u8 (x.getD j 0) ((over bs 0 a).getD j 0) = 0 := by
    intro j hj
    rw [g1 j (by omega), hx, andTo_at _ _ _ _ (by omega)]
    unfold wasS
    by_cases h : j < a.length
    · rw [if_pos (by omega), if_pos h]; exact not_of_and _ _
    · rw [if_neg (by omega), if_neg h]; exact not_255 _
  have p2 := progA_in (PSt.cut { PSt.zero with steps := PSt.zero.steps + a.length } cut mask) (over bs 0 a) x (by omega) hxw
  have h0c : decide (0 ≤ (cut : Int)) = true := by simp
  rw [progS_torn _ _ _ _ cut rfl (by simp [PSt.cut]) rfl] at p2
  by_cases hle : x.length ≤ cut
  · rw [if_pos hle] at p2
    have hl2 : (over (over bs 0 a) 0 x).length = n := by rw [over_length]; exact hl1
    have hb2 := over_bys hb1 hxb 0
    refine ⟨_, _, _, _, _, _, p1, p2, .inl ⟨rfl, by omega⟩, hl1, hl2, ?_, again_same _ _ (cut - x.length) rfl (by simp [PSt.cut]) (by simp; omega) (by omega) (by omega) hb2, rfl⟩
    intro k hk
    rw [over_at _ _ _ _ (by omega)]
    unfold wantS
    by_cases h : k < x.length
    · rw [if_pos (by omega), if_pos (by omega), Nat.sub_zero]
    · rw [if_neg (by omega), if_neg (by omega), if_neg (by omega), g1 k (by omega)]
  · rw [if_neg hle] at p2
    have htl : (x.take cut).length = cut := by simp; omega
    have hl2 : ((over (over bs 0 a) 0 (x.take cut)).set (0 + cut) (bits .or .u8 (x.getD cut 0) (bits .and .u8 ((over (over bs 0 a) 0 (x.take cut)).getD (0 + cut) 0) mask))).length = n := by
      rw [List.length_set, over_length]; exact hl1
    generalize hbs2 : (over (over bs 0 a) 0 (x.take cut)).set (0 + cut) (bits .or .u8 (x.getD cut 0) (bits .and .u8 ((over (over bs 0 a) 0 (x.take cut)).getD (0 + cut) 0) mask)) = bs2 at hl2
    have key : ∀ S : PSt, S.off = true → progA S bs2 0 (bs2.take 120) = (6, S, bs2) := by
      intro S hS
      rw [progA_in _ _ _ (by simp; omega) (fun j hj => by
        have : j < 120 := by simp at hj; omega
        rw [getD_take _ _ _ this]; exact not_self _)]
      exact progS_off _ _ _ _ hS (by
        intro e
        have h3 := congrArg List.length e
        rw [List.length_take, hl2] at h3
        simp at h3
        omega)
    subst hbs2
    refine ⟨_, _, _, _, _, _, p1, p2, .inr ⟨rfl, by omega⟩, hl1, hl2, ?_, key _ rfl, rfl⟩
    · intro k hk
      have e := over_at (over bs 0 a) 0 (x.take cut)
      have ec : (over (over bs 0 a) 0 (x.take cut)).getD cut 0 = wasS a cut := by rw [e cut (by omega), if_neg (by omega), g1 cut (by omega)]
      have ek : (over (over bs 0 a) 0 (x.take cut)).getD k 0 = if k < cut then x.getD k 0 else wasS a k := by
        rw [e k (by omega)]
        by_cases h : k < cut
        · rw [if_pos (by omega), if_pos h, Nat.sub_zero, getD_take _ _ _ h]
        · rw [if_neg (by omega), if_neg h, g1 k (by omega)]
      rw [Nat.zero_add, getD_set, over_length, hl1, ec, ek]
      unfold wantS
      rw [show (PSt.cut { PSt.zero with steps := PSt.zero.steps + a.length } cut mask).mask = mask from rfl]
      by_cases h1 : k < cut
      · rw [if_neg (show ¬ (cut = k ∧ cut < n) by omega), if_pos h1, if_pos (show k < x.length ∧ k < cut by omega)]
      · by_cases h2 : k = cut
        · subst h2
          rw [if_pos (show k = k ∧ k < n by omega), if_neg (show ¬ (k < x.length ∧ k < k) by omega), if_pos (show k < x.length ∧ k = k by omega)]
        · rw [if_neg (show ¬ (cut = k ∧ cut < n) by omega), if_neg h1, if_neg (show ¬ (k < x.length ∧ k < cut) by omega), if_neg (show ¬ (k < x.length ∧ k = cut) by omega)]
end Go.Proofs.Ytgkgbbffgcmekaa
