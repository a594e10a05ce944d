/-
  Plain laws on records: a torn end, a byte that is another one.
-/
import Derived.Test.YtgkgbbffgcmekaaFrameC
namespace Go.Proofs.Ytgkgbbffgcmekaa
open Go.RowKit
set_option linter.unusedVariables false
set_option linter.unusedSimpArgs false

theorem saidN_two {ys : List Int} {a b : Int} (h0 : ys.getD 0 0 = a) (h1 : ys.getD 1 0 = b) : saidN ys = (a + b * 256).toNat := by rw [saidN, h0, h1]
theorem getD_left {xs ys : List Int} {i : Nat} (h : i < xs.length) : (xs ++ ys).getD i 0 = xs.getD i 0 := by simp [List.getD, List.getElem?_append_left h]
theorem getD_right {xs ys : List Int} {i : Nat} (h : xs.length ≤ i) : (xs ++ ys).getD i 0 = ys.getD (i - xs.length) 0 := by simp [List.getD, List.getElem?_append_right h]
theorem getD_rep7 {n i : Nat} {x : Int} (h : i < n) : (List.replicate n x).getD i 0 = x := by simp [List.getD, h]
theorem getD_take7 {xs : List Int} {i n : Nat} (h : i < n) : (xs.take n).getD i 0 = xs.getD i 0 := by simp [List.getD, List.getElem?_take, h]
theorem getD_set_ne7 {xs : List Int} {t i : Nat} {v : Int} (h : t ≠ i) : (xs.set t v).getD i 0 = xs.getD i 0 := by
  unfold List.getD
  rw [List.getElem?_set_ne h]
theorem bodyB_two (b : List Int) (hl : b.length ≤ 65000) : (bodyB b).getD 0 0 = (b.length : Int) % 256 ∧ (bodyB b).getD 1 0 = (b.length : Int) / 256 := by
  have e : bodyB b = lenB b ++ (low (fsum b) 4 ++ b) := by simp [bodyB]
  rw [e, lenB_two]
  refine ⟨rfl, ?_⟩
  show (b.length : Int) / 256 % 256 = _
  omega
theorem firstS_none {ys : List Int} (h : 7 ≤ ys.length → saidN ys ≤ 65000 → saidN ys + 7 ≤ ys.length → ys.getD (saidN ys + 6) 0 = 0 → fsum ((ys.drop 6).take (saidN ys)) ≠ num ((ys.drop 2).take 4)) : firstS ys = none := by
  cases hf : firstS ys with
  | none => rfl
  | some b =>
    obtain ⟨h1, h2, h3, h4, rfl, h5, _⟩ := firstS_some hf
    exact absurd h5 (h h1 h2 h3 h4)
/-- Wherever the end is torn, no record stands there. -/
theorem firstS_torn (b : List Int) (hl : b.length ≤ 65000) (t z : Nat) (ht : t ≤ b.length + 6) : firstS ((bodyB b).take t ++ List.replicate z 255) = none := by
  have hbl := bodyB_length b
  have hlt : ((bodyB b).take t).length = t := by rw [List.length_take]; omega
  obtain ⟨b0, b1⟩ := bodyB_two b hl
  refine firstS_none (fun h7 hs hn hf => ?_)
  rw [List.length_append, hlt, List.length_replicate] at h7 hn
  exfalso
  rcases Nat.lt_or_ge t 2 with h2 | h2
  · have e1 : ((bodyB b).take t ++ List.replicate z 255).getD 1 0 = 255 := by
      rw [getD_right (by omega), hlt, getD_rep7 (by omega)]
    have e0 : 0 ≤ ((bodyB b).take t ++ List.replicate z 255).getD 0 0 := by
      rcases Nat.lt_or_ge 0 t with h0 | h0
      · rw [getD_left (by omega), getD_take7 h0, b0]; omega
      · rw [getD_right (by omega), hlt, getD_rep7 (by omega)]; omega
    rw [saidN_two rfl e1] at hs
    omega
  · have hsd : saidN ((bodyB b).take t ++ List.replicate z 255) = b.length := by
      rw [saidN_two (a := (b.length : Int) % 256) (b := (b.length : Int) / 256) (by rw [getD_left (by omega), getD_take7 (by omega), b0]) (by rw [getD_left (by omega), getD_take7 (by omega), b1])]
      omega
    rw [hsd] at hf hn
    rw [getD_right (by omega), hlt, getD_rep7 (by omega)] at hf
    omega
theorem num_inj {xs ys : List Int} (hx : Bys xs) (hy : Bys ys) (hl : xs.length = ys.length) (h : num xs = num ys) : xs = ys := by
  rw [← low_num hx, ← low_num hy, h, hl]
theorem set_getD {xs : List Int} {i : Nat} {v : Int} (hi : i < xs.length) (h : xs.set i v = xs) : v = xs.getD i 0 := by
  have := congrArg (fun l => l.getD i 0) h
  simp [List.getD, hi] at this
  simpa [List.getD, hi] using this
/-- A byte that is another one, behind the length, takes the record away. -/
theorem firstS_spoilt (b rest : List Int) (hb : Bys b) (hl : b.length ≤ 65000) (t : Nat) (v : Int) (h2 : 2 ≤ t) (ht : t < b.length + 7) (hv : 0 ≤ v ∧ v < 256) (hne : v ≠ (recB b).getD t 0) : firstS ((recB b).set t v ++ rest) = none := by
  have hrl := recB_length b
  have hbl := bodyB_length b
  have hll := lenB_length b
  obtain ⟨b0, b1⟩ := bodyB_two b hl
  have hsl : ((recB b).set t v).length = b.length + 7 := by rw [List.length_set, hrl]
  have g0 : ((recB b).set t v ++ rest).getD 0 0 = (b.length : Int) % 256 := by
    rw [getD_left (by omega), ← b0, recB]
    have : ((bodyB b ++ [0]).set t v).getD 0 0 = (bodyB b ++ [0]).getD 0 0 := getD_set_ne7 (by omega)
    rw [this, getD_left (by omega)]
  have g1 : ((recB b).set t v ++ rest).getD 1 0 = (b.length : Int) / 256 := by
    rw [getD_left (by omega), ← b1, recB]
    have : ((bodyB b ++ [0]).set t v).getD 1 0 = (bodyB b ++ [0]).getD 1 0 := getD_set_ne7 (by omega)
    rw [this, getD_left (by omega)]
  have hsd : saidN ((recB b).set t v ++ rest) = b.length := by
    rw [saidN_two g0 g1]
    omega
  refine firstS_none (fun h7 _ _ hf => ?_)
  rw [hsd] at hf ⊢
  rw [getD_left (by omega)] at hf
  rcases Nat.lt_or_ge t (b.length + 6) with h6 | h6
  · -- the flag stands: the sum, or a byte, is another one
    rcases Nat.lt_or_ge t 6 with ht6 | ht6
    · -- the sum
      have e : (recB b).set t v ++ rest = lenB b ++ ((low (fsum b) 4).set (t - 2) v ++ (b ++ ([0] ++ rest))) := by
        rw [recB, bodyB, List.append_assoc, List.append_assoc, List.set_append_right _ _ (by omega), hll, List.set_append_left _ _ (by rw [low_length]; omega)]
        simp
      have hq : ((recB b).set t v ++ rest).drop 2 = (low (fsum b) 4).set (t - 2) v ++ (b ++ ([0] ++ rest)) := by rw [e, List.drop_left' hll]
      have hm : (((recB b).set t v ++ rest).drop 2).take 4 = (low (fsum b) 4).set (t - 2) v := by rw [hq, List.take_left' (by rw [List.length_set, low_length])]
      have hd : ((recB b).set t v ++ rest).drop 6 = b ++ ([0] ++ rest) := by
        rw [show (6 : Nat) = 2 + 4 from rfl, ← List.drop_drop, hq, List.drop_left' (by rw [List.length_set, low_length])]
      rw [hd, List.take_left, hm]
      intro h
      have hr := fsum_range b
      have hn : num (low (fsum b) 4) = fsum b := by rw [num_low, Int.emod_eq_of_lt hr.1 (by simpa using hr.2)]
      have hbs : Bys ((low (fsum b) 4).set (t - 2) v) := by
        intro x hx
        rcases List.mem_or_eq_of_mem_set hx with h' | rfl
        · exact low_bys _ _ x h'
        · exact hv
      have := num_inj hbs (low_bys (fsum b) 4) (by rw [List.length_set]) (by rw [hn, ← h])
      have hv2 := set_getD (by rw [low_length]; omega) this
      apply hne
      rw [hv2, recB, bodyB, getD_left (by simp [hll, low_length]; omega), getD_left (by simp [hll, low_length]; omega), getD_right (by omega), hll]
    · -- a byte
      have e : (recB b).set t v ++ rest = (lenB b ++ low (fsum b) 4) ++ (b.set (t - 6) v ++ ([0] ++ rest)) := by
        have h6l : (lenB b ++ low (fsum b) 4).length = 6 := by simp [hll, low_length]
        rw [recB, bodyB, List.append_assoc, List.set_append_right _ _ (by omega), h6l, List.set_append_left _ _ (by omega)]
        simp
      have h6l : (lenB b ++ low (fsum b) 4).length = 6 := by simp [hll, low_length]
      have hd : ((recB b).set t v ++ rest).drop 6 = b.set (t - 6) v ++ ([0] ++ rest) := by rw [e, List.drop_left' h6l]
      have hm : (((recB b).set t v ++ rest).drop 2).take 4 = low (fsum b) 4 := by
        rw [e, List.append_assoc, List.drop_left' hll, List.take_left' (low_length _ _)]
      rw [hd, List.take_left' (by rw [List.length_set]), hm]
      have hr := fsum_range b
      rw [num_low, Int.emod_eq_of_lt hr.1 (by simpa using hr.2)]
      intro h
      unfold fsum at h
      have e2 : lenB (b.set (t - 6) v) ++ b.set (t - 6) v = (lenB b ++ b).set (t - 4) v := by
        rw [List.set_append_right _ _ (by omega), hll, show t - 4 - 2 = t - 6 from by omega]
        congr 1
        unfold lenB
        rw [List.length_set]
      rw [e2] at h
      have hv2 : v = (lenB b ++ b).getD (t - 4) 0 := (sumS_set (xs := lenB b ++ b) (t - 4) v (by rw [List.length_append, hll]; omega) ((low_bys _ _).app hb) hv).1 h
      apply hne
      have e3 : (recB b).getD t 0 = b.getD (t - 6) 0 := by
        rw [recB, bodyB, getD_left (by simp [hll, low_length]; omega), getD_right (by omega), h6l]
      rw [e3, hv2, getD_right (by omega), hll, show t - 4 - 2 = t - 6 from by omega]
  · -- the flag itself
    obtain rfl : t = b.length + 6 := by omega
    exfalso
    have e4 : ((recB b).set (b.length + 6) v).getD (b.length + 6) 0 = v := by simp [List.getD, hrl]
    rw [e4] at hf
    apply hne
    rw [hf, recB, getD_right (by omega), hbl, Nat.sub_self]
    rfl
end Go.Proofs.Ytgkgbbffgcmekaa
