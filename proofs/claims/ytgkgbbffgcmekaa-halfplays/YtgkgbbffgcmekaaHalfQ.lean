/-
  Plain matter of records in half a chip: what stands when a record is appended, and torn; what a wipe leaves.
-/
import Derived.Test.YtgkgbbffgcmekaaHalfP
import Derived.Test.YtgkgbbffgcmekaaNorQ
import Derived.Test.YtgkgbbffgcmekaaFrameT
namespace Go.Proofs.Ytgkgbbffgcmekaa
open Go.RowKit
set_option linter.unusedVariables false

theorem over_app (bs : List Int) (p : Nat) (x y : List Int) : over bs p (x ++ y) = over (over bs p x) (p + x.length) y := by
  induction x generalizing bs p with
  | nil => simp [over]
  | cons a t ih =>
    simp only [List.cons_append, over, List.length_cons]
    rw [ih]
    congr 1
    omega
theorem over_right (x r y : List Int) : over (x ++ r) x.length y = x ++ over r 0 y := by
  have key : ∀ (y r : List Int) (q : Nat), over (x ++ r) (x.length + q) y = x ++ over r q y := by
    intro y
    induction y with
    | nil => intro r q; rfl
    | cons a t ih =>
      intro r q
      simp only [over]
      rw [List.set_append_right _ _ (by omega), Nat.add_sub_cancel_left, Nat.add_assoc, ih]
  simpa using key y r 0
theorem over_rep (n : Nat) (v : Int) (y : List Int) (h : y.length ≤ n) : over (List.replicate n v) 0 y = y ++ List.replicate (n - y.length) v := by
  have key : ∀ (y : List Int) (a : List Int) (n : Nat), y.length ≤ n → over (a ++ List.replicate n v) a.length y = a ++ (y ++ List.replicate (n - y.length) v) := by
    intro y
    induction y with
    | nil => intro a n _; simp [over]
    | cons x t ih =>
      intro a n hn
      obtain ⟨m, rfl⟩ : ∃ m, n = m + 1 := ⟨n - 1, by simp at hn; omega⟩
      simp only [over]
      rw [List.set_append_right _ _ (Nat.le_refl _), Nat.sub_self, List.replicate_succ, List.set_cons_zero]
      have := ih (a ++ [x]) m (by simpa using hn)
      simp only [List.append_assoc, List.cons_append, List.nil_append, List.length_append, List.length_cons, List.length_nil, Nat.zero_add] at this
      rw [this]
      simp
  simpa using key y [] n h
theorem set_rep (x : List Int) (n : Nat) (v y : Int) (h : 0 < n) : (x ++ List.replicate n v).set x.length y = x ++ (y :: List.replicate (n - 1) v) := by
  obtain ⟨m, rfl⟩ : ∃ m, n = m + 1 := ⟨n - 1, by omega⟩
  rw [List.set_append_right _ _ (Nat.le_refl _), Nat.sub_self, List.replicate_succ, List.set_cons_zero]
  simp
theorem and_255 {m : Int} (h : 0 ≤ m ∧ m < 256) : bits .and .u8 255 m = m := by
  obtain ⟨n, rfl⟩ := byte_nat h
  exact (by decide +kernel : ∀ n : Fin 256, bits .and .u8 255 (n.val : Int) = (n.val : Int)) n
theorem or_zero8 {m : Int} (h : 0 ≤ m ∧ m < 256) : bits .or .u8 0 m = m := by
  obtain ⟨n, rfl⟩ := byte_nat h
  exact (by decide +kernel : ∀ n : Fin 256, bits .or .u8 0 (n.val : Int) = (n.val : Int)) n

theorem progA_blank (S : PSt) (bs : List Int) (P : Nat) (b : List Int) (hl : P + b.length ≤ bs.length) (hb : ∀ j, j < b.length → bs.getD (P + j) 0 = 255) : progA S bs P b = progS S bs P b := by
  have h : hasS bs.length P b.length = true := by simp [hasS]; omega
  have h2 : sets bs P b = false := sets_false bs P b (fun j hj => by rw [hb j hj]; exact not_255 _)
  unfold progA
  rw [h, if_pos rfl, Int.toNat_natCast, h2]
  rfl
/-- Power that is on and tears nothing: the record, and its flag. -/
theorem progR_free (S : PSt) (bs : List Int) (P : Nat) (b : List Int) (h1 : S.off = false) (h2 : S.armed = false) (hl : P + b.length + 1 ≤ bs.length) (hb : ∀ j, j < b.length + 1 → bs.getD (P + j) 0 = 255) :
    progR S bs P b = (0, { S with steps := S.steps + (b.length + 1) }, over bs P (b ++ [0])) := by
  have e1 : progA S bs P b = (0, { S with steps := S.steps + b.length }, over bs P b) := by
    rw [progA_blank S bs P b (by omega) (fun j hj => hb j (by omega)), progS_free S bs P b h1 h2]
  have e2 := progA_blank { S with steps := S.steps + b.length } (over bs P b) (P + b.length) [0] (by rw [over_length]; simp; omega) (fun j hj => by
    simp at hj
    subst hj
    rw [Nat.add_zero, over_at _ _ _ _ (by omega), if_neg (by omega)]
    exact hb _ (by omega))
  rw [progS_free { S with steps := S.steps + b.length } _ _ _ h1 h2] at e2
  unfold progR
  rw [e1]
  simp only [if_true]
  rw [show (P : Int) + (b.length : Int) = ((P + b.length : Nat) : Int) by simp, e2, ← over_app]
  simp
  omega
/-- Power that will be torn. -/
theorem progR_torn (S : PSt) (bs : List Int) (P : Nat) (b : List Int) (c : Nat) (h1 : S.off = false) (h2 : S.armed = true) (h3 : S.left = c) (hm : 0 ≤ S.mask ∧ S.mask < 256) (hl : P + b.length + 1 ≤ bs.length) (hb : ∀ j, j < b.length + 1 → bs.getD (P + j) 0 = 255) :
    progR S bs P b = if b.length + 1 ≤ c then (0, { S with left := (c : Int) - (b.length + 1), steps := S.steps + (b.length + 1) }, over bs P (b ++ [0]))
      else (6, { S with off := true, left := 0, steps := S.steps + c }, (over bs P ((b ++ [0]).take c)).set (P + c) (bits .or .u8 ((b ++ [0]).getD c 0) S.mask)) := by
  have e1 := progA_blank S bs P b (by omega) (fun j hj => hb j (by omega))
  rw [progS_torn S bs P b c h1 h2 h3] at e1
  by_cases hc : b.length ≤ c
  · rw [if_pos hc] at e1
    have e2 := progA_blank { S with left := (c : Int) - b.length, steps := S.steps + b.length } (over bs P b) (P + b.length) [0] (by rw [over_length]; simp; omega) (fun j hj => by
      simp at hj
      subst hj
      rw [Nat.add_zero, over_at _ _ _ _ (by omega), if_neg (by omega)]
      exact hb _ (by omega))
    rw [progS_torn { S with left := (c : Int) - b.length, steps := S.steps + b.length } (over bs P b) (P + b.length) [0] (c - b.length) h1 h2 (by simp; omega)] at e2
    unfold progR
    rw [e1]
    simp only [if_true]
    rw [show (P : Int) + (b.length : Int) = ((P + b.length : Nat) : Int) by simp, e2]
    by_cases hc2 : b.length + 1 ≤ c
    · rw [if_pos (by simp; omega), if_pos hc2, ← over_app]
      simp
      omega
    · obtain rfl : c = b.length := by omega
      rw [if_neg (by simp), if_neg (by omega)]
      have e3 : (over bs P b).getD (P + b.length) 0 = 255 := by
        rw [over_at _ _ _ _ (by omega), if_neg (by omega)]
        exact hb _ (by omega)
      simp only [Nat.sub_self, List.take_zero, over, Nat.add_zero, List.take_left', e3, List.getD_cons_zero]
      rw [and_255 hm]
      simp [List.getD]
  · rw [if_neg hc] at e1
    unfold progR
    rw [e1]
    simp only [if_neg (show ¬ ((6 : Int) = 0) by decide)]
    rw [if_neg (by omega)]
    have e3 : (over bs P (b.take c)).getD (P + c) 0 = 255 := by
      have hlt : (b.take c).length = c := by simp; omega
      rw [over_at _ _ _ _ (by omega), if_neg (by omega)]
      exact hb _ (by omega)
    have e4 : (b ++ [(0 : Int)]).getD c 0 = b.getD c 0 := getD_left (by omega)
    have e5 : (b ++ [(0 : Int)]).take c = b.take c := List.take_append_of_le_length (by omega)
    rw [e3, and_255 hm, e4, e5]

theorem firstS_not {ys : List Int} {N : Nat} (hN : saidN ys = N) (h : 65000 < N ∨ ys.length < N + 7 ∨ ys.getD (N + 6) 0 ≠ 0) : firstS ys = none := by
  unfold firstS
  split
  · rfl
  · rw [hN, if_pos h]
/-- A record that is torn within its body, or in its flag, is none. -/
theorem firstS_ripped (b : List Int) (hl : b.length ≤ 65000) (c z : Nat) (hc : c < b.length + 7) (y : Int) (hy : 0 ≤ y ∧ y < 256) (h0 : c = b.length + 6 → y ≠ 0) : firstS ((recB b).take c ++ (y :: List.replicate z 255)) = none := by
  have hbl : (recB b).length = b.length + 7 := recB_length b
  have htl : ((recB b).take c).length = c := by simp [hbl]; omega
  have hlow : ∀ i, i < c → ((recB b).take c ++ (y :: List.replicate z 255)).getD i 0 = (recB b).getD i 0 := fun i hi => by
    rw [getD_left (by omega), getD_take7 hi]
  have hat : ((recB b).take c ++ (y :: List.replicate z 255)).getD c 0 = y := by
    rw [getD_right (by omega), htl, Nat.sub_self]; rfl
  have hhi : ∀ i, c < i → i < c + 1 + z → ((recB b).take c ++ (y :: List.replicate z 255)).getD i 0 = 255 := fun i h1 h2 => by
    rw [getD_right (by omega), htl, show i - c = (i - c - 1) + 1 by omega, List.getD_cons_succ, getD_rep7 (by omega)]
  have hlen : ((recB b).take c ++ (y :: List.replicate z 255)).length = c + 1 + z := by rw [List.length_append, htl]; simp; omega
  generalize hys : (recB b).take c ++ (y :: List.replicate z 255) = ys at *
  have hsix : c < saidN ys + 6 → firstS ys = none := fun h => by
    refine firstS_not rfl ?_
    by_cases hh : ys.length < saidN ys + 7
    · exact .inr (.inl hh)
    · exact .inr (.inr (by rw [hhi _ h (by omega)]; omega))
  by_cases h2 : 2 ≤ c
  · have hb2 := bodyB_two b hl
    have r0 : (recB b).getD 0 0 = (b.length : Int) % 256 := by rw [← hb2.1, recB, getD_left (by rw [bodyB_length]; omega)]
    have r1 : (recB b).getD 1 0 = (b.length : Int) / 256 := by rw [← hb2.2, recB, getD_left (by rw [bodyB_length]; omega)]
    have hs : saidN ys = b.length := by
      rw [saidN_two (hlow 0 (by omega)) (hlow 1 (by omega)), r0, r1]
      omega
    by_cases he : c = b.length + 6
    · refine firstS_not rfl (.inr (.inr ?_))
      rw [hs, ← he, hat]
      exact h0 he
    · exact hsix (by omega)
  · exact hsix (by omega)
end Go.Proofs.Ytgkgbbffgcmekaa
