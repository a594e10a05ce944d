/-
  Plain mathematics of records: what Body makes, what stands at the beginning of bytes, what Scan finds. No program is named here.
-/
import Derived.Test.YtgkgbbffgcmekaaCodecB
import Derived.Test.YtgkgbbffgcmekaaSumA
namespace Go.Proofs.Ytgkgbbffgcmekaa
open Go.RowKit
set_option linter.unusedVariables false

/-- The length's two bytes, and the bytes: what the sum is over. -/
def lenB (xs : List Int) : List Int := low (xs.length : Int) 2
def fsum (xs : List Int) : Int := sumS (lenB xs ++ xs)
/-- All of a record but the flag. -/
def bodyB (xs : List Int) : List Int := lenB xs ++ low (fsum xs) 4 ++ xs
def bodyS (xs : List Int) : List Int × Int := if 65000 < xs.length then ([], 21) else (bodyB xs, 0)
/-- A record that counts. -/
def recB (xs : List Int) : List Int := bodyB xs ++ [0]

theorem lenB_length (xs : List Int) : (lenB xs).length = 2 := low_length _ _
theorem bodyB_length (xs : List Int) : (bodyB xs).length = xs.length + 6 := by simp [bodyB, lenB, low_length]; omega
theorem recB_length (xs : List Int) : (recB xs).length = xs.length + 7 := by simp [recB, bodyB_length]
theorem fsum_range (xs : List Int) : 0 ≤ fsum xs ∧ fsum xs < 4294967296 := sumS_range _
theorem bodyB_bys {xs : List Int} (h : Bys xs) : Bys (bodyB xs) := ((low_bys _ _).app (low_bys _ _)).app h
theorem recB_bys {xs : List Int} (h : Bys xs) : Bys (recB xs) := (bodyB_bys h).app (by intro x hx; simp at hx; omega)

/-- How many bytes it says that it has. -/
def saidN (xs : List Int) : Nat := (xs.getD 0 0 + xs.getD 1 0 * 256).toNat
/-- What is in the record at the beginning, if a whole one stands there. -/
def firstS (xs : List Int) : Option (List Int) :=
  if xs.length < 7 then none
  else if 65000 < saidN xs ∨ xs.length < saidN xs + 7 ∨ xs.getD (saidN xs + 6) 0 ≠ 0 then none
  else if fsum ((xs.drop 6).take (saidN xs)) = num ((xs.drop 2).take 4) then some ((xs.drop 6).take (saidN xs)) else none

theorem firstS_some {xs b : List Int} (h : firstS xs = some b) : 7 ≤ xs.length ∧ saidN xs ≤ 65000 ∧ saidN xs + 7 ≤ xs.length ∧ xs.getD (saidN xs + 6) 0 = 0 ∧ b = (xs.drop 6).take (saidN xs) ∧ fsum b = num ((xs.drop 2).take 4) ∧ b.length = saidN xs := by
  unfold firstS at h
  split at h
  · cases h
  · rename_i h1
    split at h
    · cases h
    · rename_i h2
      split at h
      · rename_i h3
        have e := Option.some.inj h
        refine ⟨by omega, by omega, by omega, ?_, e.symm, by rw [← e]; exact h3, by rw [← e]; simp; omega⟩
        exact Classical.byContradiction (fun h => h2 (.inr (.inr h)))
      · cases h

/-- Records, one behind the other, from the beginning on. -/
inductive Seen (xs : List Int) : List (List Int) → Nat → Prop
  | none : Seen xs [] 0
  | more {bs : List (List Int)} {n : Nat} {b : List Int} : Seen xs bs n → firstS (xs.drop n) = some b → Seen xs (bs ++ [b]) (n + (b.length + 7))
/-- That is all that Scan finds. -/
def ScanEnd (xs : List Int) (bs : List (List Int)) (n : Nat) : Prop := Seen xs bs n ∧ firstS (xs.drop n) = none

theorem Seen.le {xs : List Int} {bs : List (List Int)} {n : Nat} (h : Seen xs bs n) : n ≤ xs.length ∧ 7 * bs.length ≤ n := by
  induction h with
  | none => simp
  | more h1 h2 ih =>
    have := firstS_some h2
    simp at this ⊢
    omega
theorem Seen.bys {xs : List Int} (hx : Bys xs) {bs : List (List Int)} {n : Nat} (h : Seen xs bs n) : ∀ b ∈ bs, Bys b := by
  induction h with
  | none => simp
  | more h1 h2 ih =>
    intro b hb
    rcases List.mem_append.1 hb with h' | h'
    · exact ih b h'
    · simp at h'
      subst h'
      rw [(firstS_some h2).2.2.2.2.1]
      exact ((hx.drop _).drop 6).take _
theorem Seen.lens {xs : List Int} {bs : List (List Int)} {n : Nat} (h : Seen xs bs n) : ∀ b ∈ bs, b.length ≤ 65000 := by
  induction h with
  | none => simp
  | more h1 h2 ih =>
    intro b hb
    rcases List.mem_append.1 hb with h' | h'
    · exact ih b h'
    · simp at h'
      subst h'
      have := firstS_some h2
      omega

/-- In front: the first record, and what is behind it. -/
inductive Found : List Int → List (List Int) → Nat → Prop
  | stop {xs : List Int} : firstS xs = none → Found xs [] 0
  | more {xs b : List Int} {bs : List (List Int)} {n : Nat} : firstS xs = some b → Found (xs.drop (b.length + 7)) bs n → Found xs (b :: bs) (b.length + 7 + n)
theorem Found.uniq {xs : List Int} {bs cs : List (List Int)} {n m : Nat} (h : Found xs bs n) (k : Found xs cs m) : bs = cs ∧ n = m := by
  induction h generalizing cs m with
  | stop h1 =>
    cases k with
    | stop _ => exact ⟨rfl, rfl⟩
    | more h2 _ => rw [h1] at h2; cases h2
  | more h1 h2 ih =>
    cases k with
    | stop h3 => rw [h1] at h3; cases h3
    | more h3 h4 =>
      rw [h1] at h3
      cases h3
      obtain ⟨e1, e2⟩ := ih h4
      exact ⟨by rw [e1], by rw [e2]⟩
theorem Seen.found {xs : List Int} {bs : List (List Int)} {n : Nat} (h : Seen xs bs n) : ∀ {cs : List (List Int)} {m : Nat}, Found (xs.drop n) cs m → Found xs (bs ++ cs) (n + m) := by
  induction h with
  | none => intro cs m k; simpa using k
  | @more bs n b h1 h2 ih =>
    intro cs m k
    rw [← List.drop_drop] at k
    have := ih (Found.more h2 k)
    rw [List.append_assoc, Nat.add_assoc]
    exact this
theorem ScanEnd.found {xs : List Int} {bs : List (List Int)} {n : Nat} (h : ScanEnd xs bs n) : Found xs bs n := by
  have := h.1.found (.stop h.2)
  simpa using this
theorem ScanEnd.uniq {xs : List Int} {bs cs : List (List Int)} {n m : Nat} (h : ScanEnd xs bs n) (k : ScanEnd xs cs m) : bs = cs ∧ n = m := h.found.uniq k.found

/-- Two bytes of a length. -/
theorem lenB_two (xs : List Int) : lenB xs = [(xs.length : Int) % 256, (xs.length : Int) / 256 % 256] := by
  simp [lenB, low, List.range_succ]
theorem saidN_rec (b rest : List Int) (hl : b.length ≤ 65000) : saidN (lenB b ++ rest) = b.length := by
  rw [lenB_two]
  simp [saidN, List.getD]
  omega
/-- A whole record is found. -/
theorem firstS_rec (b rest : List Int) (hl : b.length ≤ 65000) : firstS (recB b ++ rest) = some b := by
  have e : recB b ++ rest = lenB b ++ (low (fsum b) 4 ++ (b ++ (0 :: rest))) := by simp [recB, bodyB]
  have hs : saidN (recB b ++ rest) = b.length := by rw [e]; exact saidN_rec b _ hl
  have hlen : (recB b ++ rest).length = b.length + 7 + rest.length := by rw [List.length_append, recB_length]
  have h6 : (recB b ++ rest).drop 6 = b ++ (0 :: rest) := by
    have e2 : recB b ++ rest = (lenB b ++ low (fsum b) 4) ++ (b ++ (0 :: rest)) := by rw [e, List.append_assoc]
    rw [e2, List.drop_left' (by simp [lenB_length, low_length])]
  have h2 : ((recB b ++ rest).drop 2).take 4 = low (fsum b) 4 := by
    rw [e, List.drop_left' (lenB_length b), List.take_left' (low_length _ _)]
  have hf : (recB b ++ rest).getD (b.length + 6) 0 = 0 := by
    have : (recB b ++ rest).getD (b.length + 6) 0 = ((recB b ++ rest).drop 6).getD b.length 0 := by
      simp [List.getD, Nat.add_comm]
    rw [this, h6]
    simp [List.getD]
  unfold firstS
  rw [if_neg (by omega), hs, if_neg (by rw [hf, hlen]; omega), h6, List.take_left, h2, num_low]
  have := fsum_range b
  rw [if_pos (by rw [Int.emod_eq_of_lt this.1 (by simpa using this.2)])]
/-- Records one behind the other. -/
def recs (bs : List (List Int)) : List Int := (bs.map recB).flatten
theorem recs_nil : recs [] = [] := rfl
theorem recs_snoc (bs : List (List Int)) (b : List Int) : recs (bs ++ [b]) = recs bs ++ recB b := by simp [recs]
theorem recs_cons (bs : List (List Int)) (b : List Int) : recs (b :: bs) = recB b ++ recs bs := by simp [recs]
theorem recs_app (bs cs : List (List Int)) : recs (bs ++ cs) = recs bs ++ recs cs := by simp [recs]
theorem recs_bys {bs : List (List Int)} (h : ∀ b ∈ bs, Bys b) : Bys (recs bs) := by
  induction bs with
  | nil => exact Bys.nil
  | cons b t ih => rw [recs_cons]; exact (recB_bys (h b (by simp))).app (ih (fun c hc => h c (by simp [hc])))
theorem found_recs {bs : List (List Int)} {rest : List Int} (hl : ∀ b ∈ bs, b.length ≤ 65000) {cs : List (List Int)} {n : Nat} (h : Found rest cs n) : Found (recs bs ++ rest) (bs ++ cs) ((recs bs).length + n) := by
  induction bs with
  | nil => simpa [recs] using h
  | cons b t ih =>
    have h1 := ih (fun c hc => hl c (by simp [hc]))
    rw [recs_cons, List.append_assoc]
    have h2 : (recB b ++ (recs t ++ rest)).drop (b.length + 7) = recs t ++ rest := List.drop_left' (recB_length b)
    have := Found.more (firstS_rec b (recs t ++ rest) (hl b (by simp))) (by rw [h2]; exact h1)
    rw [List.length_append, recB_length, Nat.add_assoc]
    exact this
theorem firstS_nil : firstS [] = none := by simp [firstS]
theorem firstS_short {xs : List Int} (h : xs.length < 7) : firstS xs = none := by simp [firstS, h]
end Go.Proofs.Ytgkgbbffgcmekaa
