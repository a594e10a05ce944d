/-
  Plain laws on getS and textS: what is put is got.
-/
import Derived.Test.YtgkmgpjhpplkiaaHelp
import Derived.Test.YtgkmgpjhpplkiaaMem2
import Derived.Test.YtgkmgpjhpplkiaaCodecB
namespace Go.Proofs.Ytgkmgpjhpplkiaa
open Go.RowKit
set_option linter.unusedVariables false

theorem getS_in {pre mid post : List Int} {n : Int} (hn : n = mid.length) (h1 : 1 ≤ n) (h8 : n ≤ 8) : getS (pre ++ (mid ++ post)) pre.length n = (num mid, 0) := by
  unfold getS
  rw [if_neg (by omega), if_neg (by simp; omega)]
  have e : ((pre ++ (mid ++ post)).drop (Int.toNat (pre.length : Int))).take n.toNat = mid := by
    rw [Int.toNat_natCast, List.drop_left, hn, Int.toNat_natCast, List.take_left]
  rw [e]

/-- A text that was put is got. -/
theorem textS_put (pre s more : List Int) (hs : (s.length : Int) < 4294967296) : textS (pre ++ (low s.length 4 ++ (s ++ more))) pre.length = (s, (pre.length : Int) + 4 + s.length, 0) := by
  have hg : getS (pre ++ (low s.length 4 ++ (s ++ more))) pre.length 4 = ((s.length : Int), 0) := by
    rw [getS_in (by rw [low_length]; rfl) (by omega) (by omega), num_low]
    rw [Int.emod_eq_of_lt (by omega) (by show (s.length : Int) < 2 ^ 32; omega)]
  unfold textS
  rw [hg]
  rw [if_neg (by simp), if_neg (by simp [low_length]; omega)]
  have e : ((pre ++ (low s.length 4 ++ (s ++ more))).drop (Int.toNat (pre.length : Int) + 4)).take (Int.toNat (s.length : Int)) = s := by
    rw [Int.toNat_natCast, Int.toNat_natCast, ← List.drop_drop, List.drop_left]
    have hl := low_length (s.length : Int) 4
    generalize low (s.length : Int) 4 = l at *
    rw [← hl, List.drop_left, List.take_left]
  simp only [e]

/-- What is cut is too short. -/
theorem textS_cut (s : List Int) (k : Nat) (hk : k < 4 + s.length) (hs : (s.length : Int) < 4294967296) : textS ((low s.length 4 ++ s).take k) 0 = ([], 0, 3) := by
  by_cases h4 : k < 4
  · have hg : getS ((low s.length 4 ++ s).take k) 0 4 = (0, 3) := by
      unfold getS
      rw [if_neg (by omega), if_pos (by rw [List.length_take, List.length_append, low_length]; omega)]
    unfold textS
    rw [hg, if_pos (by simp)]
  · have e : (low s.length 4 ++ s).take k = [] ++ (low s.length 4 ++ s.take (k - 4)) := by
      rw [List.nil_append, List.take_append, low_length, List.take_of_length_le (by rw [low_length]; omega)]
    have hg : getS ((low s.length 4 ++ s).take k) 0 4 = ((s.length : Int), 0) := by
      rw [e]
      have := getS_in (pre := []) (mid := low s.length 4) (post := s.take (k - 4)) (n := 4) (by rw [low_length]; rfl) (by omega) (by omega)
      rw [List.length_nil] at this
      rw [show ((0 : Nat) : Int) = 0 from rfl] at this
      rw [this, num_low, Int.emod_eq_of_lt (by omega) (by show (s.length : Int) < 2 ^ 32; omega)]
    unfold textS
    rw [hg, if_neg (by simp), if_pos (by rw [List.length_take, List.length_append, low_length]; omega)]

/-- Behind the end there is none. -/
theorem textS_end (xs : List Int) : textS xs xs.length = ([], 0, 3) := by
  have hg : getS xs xs.length 4 = (0, 3) := by
    unfold getS
    rw [if_neg (by omega), if_pos (by omega)]
  unfold textS
  rw [hg, if_pos (by simp)]

end Go.Proofs.Ytgkmgpjhpplkiaa
