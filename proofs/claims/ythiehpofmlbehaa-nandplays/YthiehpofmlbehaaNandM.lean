/-
  Package nand's Load.
-/
import Derived.Test.YthiehpofmlbehaaNandL
namespace Go.Proofs.Ythiehpofmlbehaa
open Go.RowKit
set_option linter.unusedVariables false
set_option maxRecDepth 100000

/-- How many of a block's first k pages count as programmed. -/
def nxA (X : List Int) (D z i : Nat) : Nat → Int
  | 0 => 0
  | k + 1 => if ff (pgs X ((i * D + k) * z) z) then nxA X D z i k else (k : Int) + 1
theorem nxA_range (X : List Int) (D z i k : Nat) : 0 ≤ nxA X D z i k ∧ nxA X D z i k ≤ k := by
  induction k with
  | zero => simp [nxA]
  | succ k ih =>
    unfold nxA
    split
    · omega
    · omega
theorem nxA_gt {X : List Int} {D z i b k : Nat} (hb : b < k) (h : ff (pgs X ((i * D + b) * z) z) = false) : (b : Int) < nxA X D z i k := by
  induction k with
  | zero => omega
  | succ k ih =>
    unfold nxA
    split
    · rename_i h1
      rcases Nat.lt_or_ge b k with h2 | h2
      · exact ih h2
      · obtain rfl : b = k := by omega
        rw [h] at h1
        cases h1
    · omega
def DSt.load (N : DSt) (X : List Int) : DSt := { N with bs := X, nx := (List.range N.C).map (fun j => nxA X N.D (N.E + 16) j N.D) }
theorem DSt.Ok.load {N : DSt} {n : Nat} (h : N.Ok n) {X : List Int} (hl : X.length = N.C * N.D * (N.E + 16)) (hx : Bys X) : (N.load X).Ok n := by
  refine ⟨h.1, h.2, h.3, h.4, h.5, h.6, hl, by simp [DSt.load], h.9, hx, ?_, h.12⟩
  intro x hx
  simp [DSt.load] at hx ⊢
  obtain ⟨j, _, rfl⟩ := hx
  exact nxA_range _ _ _ _ _

/-- Blocks below i are loaded, and of block i the first k pages. -/
def nxL (N : DSt) (X : List Int) (i k : Nat) : List Int := (List.range N.C).map (fun j => if j < i then nxA X N.D (N.E + 16) j N.D else if j = i then nxA X N.D (N.E + 16) i k else N.nx.getD j 0)
def nxB (N : DSt) (X : List Int) (i : Nat) : List Int := (List.range N.C).map (fun j => if j < i then nxA X N.D (N.E + 16) j N.D else N.nx.getD j 0)
theorem nxL_length (N : DSt) (X : List Int) (i k : Nat) : (nxL N X i k).length = N.C := by simp [nxL]
theorem nxB_length (N : DSt) (X : List Int) (i : Nat) : (nxB N X i).length = N.C := by simp [nxB]
theorem nxB_zero {N : DSt} {n : Nat} (ok : N.Ok n) (X : List Int) : nxB N X 0 = N.nx := by
  refine list_ext5 (by rw [nxB_length, ok.nl]) (fun j hj => ?_)
  rw [nxB_length] at hj
  simp [nxB, List.getD, hj]
theorem range_getD {n j : Nat} {f : Nat → Int} (h : j < n) : ((List.range n).map f).getD j 0 = f j := by simp [List.getD, h]
theorem nxB_set (N : DSt) (X : List Int) {i : Nat} (hi : i < N.C) : (nxB N X i).set i 0 = nxL N X i 0 := by
  refine list_ext5 (by rw [List.length_set, nxB_length, nxL_length]) (fun j hj => ?_)
  rw [List.length_set, nxB_length] at hj
  rw [nxL, range_getD hj, getD_set]
  by_cases e : i = j
  · subst e
    rw [if_pos ⟨rfl, by rw [nxB_length]; exact hi⟩, if_neg (by omega), if_pos rfl]
    rfl
  · rw [if_neg (fun h => e h.1), nxB, range_getD hj]
    by_cases h1 : j < i
    · rw [if_pos h1, if_pos h1]
    · rw [if_neg h1, if_neg h1, if_neg (fun h => e h.symm)]
theorem nxL_yes (N : DSt) (X : List Int) {i k : Nat} (hi : i < N.C) (h : ff (pgs X ((i * N.D + k) * (N.E + 16)) (N.E + 16)) = false) : (nxL N X i k).set i ((k : Int) + 1) = nxL N X i (k + 1) := by
  refine list_ext5 (by rw [List.length_set, nxL_length, nxL_length]) (fun j hj => ?_)
  rw [List.length_set, nxL_length] at hj
  rw [nxL, nxL, range_getD hj, getD_set]
  by_cases e : i = j
  · subst e
    rw [if_pos ⟨rfl, by simpa using hi⟩, if_neg (by omega), if_pos rfl]
    rw [nxA, h]
    simp
  · rw [if_neg (fun h => e h.1), range_getD hj]
    by_cases h1 : j < i
    · rw [if_pos h1, if_pos h1]
    · rw [if_neg h1, if_neg h1, if_neg (fun h => e h.symm), if_neg (fun h => e h.symm)]
theorem nxL_no (N : DSt) (X : List Int) {i k : Nat} (h : ff (pgs X ((i * N.D + k) * (N.E + 16)) (N.E + 16)) = true) : nxL N X i k = nxL N X i (k + 1) := by
  unfold nxL
  rw [nxA, h]
  simp
theorem nxL_end (N : DSt) (X : List Int) (i : Nat) : nxL N X i N.D = nxB N X (i + 1) := by
  unfold nxL nxB
  apply List.map_congr_left
  intro j _
  by_cases h1 : j < i
  · rw [if_pos h1, if_pos (by omega)]
  · rw [if_neg h1]
    by_cases h2 : j = i
    · subst h2
      rw [if_pos rfl, if_pos (by omega)]
    · rw [if_neg h2, if_neg (by omega)]
theorem nxB_end (N : DSt) (X : List Int) : nxB N X N.C = (N.load X).nx := by
  unfold nxB DSt.load
  apply List.map_congr_left
  intro j hj
  rw [if_pos (List.mem_range.1 hj)]
/-- The pages so far. -/
structure LPages (base : Nat) (w : World) (mb : Nat) (N : DSt) (X : List Int) (i k : Nat) (f : Nat → Nat → Option Value) : Prop where
  own : ∀ a b v, a < N.C → b < N.D → f a b = some v → (a < i ∨ a = i ∧ b < k) ∧ ff (pgs X ((a * N.D + b) * (N.E + 16)) (N.E + 16)) = false ∧ ∃ g cap, v = .slice (some ⟨g, 0, none⟩) (N.E + 16) cap ∧ mb < g ∧ Own base w v (pgs X ((a * N.D + b) * (N.E + 16)) (N.E + 16))
  non : ∀ a b, a < N.C → b < N.D → (a < i ∨ a = i ∧ b < k) → f a b = none → ff (pgs X ((a * N.D + b) * (N.E + 16)) (N.E + 16)) = true
  inj : ∀ a b a' b' g n cap n' cap', a < N.C → b < N.D → a' < N.C → b' < N.D → f a b = some (.slice (some ⟨g, 0, none⟩) n cap) → f a' b' = some (.slice (some ⟨g, 0, none⟩) n' cap') → a = a' ∧ b = b'
theorem LPages.only {base : Nat} {w w' : World} {mb : Nat} {N : DSt} {X : List Int} {i k : Nat} {f : Nat → Nat → Option Value} (h : LPages base w mb N X i k f) {l : List Nat} (hO : Only l w w') (hl : ∀ q ∈ l, q ≤ mb ∨ q < base) : LPages base w' mb N X i k f := by
  refine ⟨fun a b v ha hb hf => ?_, h.non, h.inj⟩
  obtain ⟨h1, h2, g, cap, rfl, hg, ho⟩ := h.own a b v ha hb hf
  have hbl := ho.block g rfl
  refine ⟨h1, h2, g, cap, rfl, hg, ho.only hO (fun j hj hm => ?_)⟩
  cases hj
  have := hl g hm
  omega
theorem LPages.no {base : Nat} {w : World} {mb : Nat} {N : DSt} {X : List Int} {i k : Nat} {f : Nat → Nat → Option Value} (h : LPages base w mb N X i k f) (hff : ff (pgs X ((i * N.D + k) * (N.E + 16)) (N.E + 16)) = true) : LPages base w mb N X i (k + 1) f := by
  refine ⟨fun a b v ha hb hf => ?_, fun a b ha hb hl hf => ?_, h.inj⟩
  · obtain ⟨h1, r⟩ := h.own a b v ha hb hf
    exact ⟨by omega, r⟩
  · rcases (show (a < i ∨ a = i ∧ b < k) ∨ (a = i ∧ b = k) by omega) with h' | ⟨rfl, rfl⟩
    · exact h.non a b ha hb h' hf
    · exact hff
theorem LPages.yes {base : Nat} {w w' : World} {mb : Nat} {N : DSt} {X : List Int} {i k g cap : Nat} {f : Nat → Nat → Option Value} (h : LPages base w mb N X i k f) (hff : ff (pgs X ((i * N.D + k) * (N.E + 16)) (N.E + 16)) = false) {l : List Nat} (hO : Only l w w') (hl : ∀ q ∈ l, q ≤ mb ∨ q < base) (hg : w.heap.size ≤ g) (hmb : mb < w.heap.size) (hsz : base ≤ w.heap.size)
    (ho : Own w.heap.size w' (.slice (some ⟨g, 0, none⟩) (N.E + 16) cap) (pgs X ((i * N.D + k) * (N.E + 16)) (N.E + 16))) : LPages base w' mb N X i (k + 1) (put2 f i k (some (.slice (some ⟨g, 0, none⟩) (N.E + 16) cap))) := by
  have h' := h.only hO hl
  have hold : ∀ a b g2 n2 cap2, a < N.C → b < N.D → f a b = some (.slice (some ⟨g2, 0, none⟩) n2 cap2) → g2 < w.heap.size := by
    intro a b g2 n2 cap2 ha hb hf
    obtain ⟨_, _, g3, cap3, e, _, ho3⟩ := h.own a b _ ha hb hf
    cases e
    exact (ho3.block g2 rfl).2
  refine ⟨fun a b v ha hb hf => ?_, fun a b ha hb hl2 hf => ?_, fun a b a' b' g2 n2 cap2 n2' cap2' ha hb ha' hb' hf hf' => ?_⟩
  · unfold put2 at hf
    split at hf
    · rename_i e
      obtain ⟨rfl, rfl⟩ := e
      cases hf
      exact ⟨by omega, hff, g, cap, rfl, by omega, ho.mono hsz⟩
    · obtain ⟨h1, r⟩ := h'.own a b v ha hb hf
      exact ⟨by omega, r⟩
  · unfold put2 at hf
    split at hf
    · cases hf
    · rename_i e
      exact h.non a b ha hb (by omega) hf
  · unfold put2 at hf hf'
    split at hf
    · rename_i e
      cases hf
      split at hf'
      · rename_i e'
        omega
      · have := hold a' b' _ _ _ ha' hb' hf'
        omega
    · split at hf'
      · rename_i e e'
        cases hf'
        have := hold a b _ _ _ ha hb hf
        omega
      · exact h.inj a b a' b' g2 n2 cap2 n2' cap2' ha hb ha' hb' hf hf'
theorem LPages.next {base : Nat} {w : World} {mb : Nat} {N : DSt} {X : List Int} {i : Nat} {f : Nat → Nat → Option Value} (h : LPages base w mb N X i N.D f) : LPages base w mb N X (i + 1) 0 f :=
  ⟨fun a b v ha hb hf => by
    obtain ⟨h1, r⟩ := h.own a b v ha hb hf
    exact ⟨by omega, r⟩, fun a b ha hb hl hf => h.non a b ha hb (by omega) hf, h.inj⟩
/-- A row of bytes that the call reads stays, if its block does. -/
theorem Row.apartO {w w' : World} {v : Value} {xs : List Int} (h : Row w v xs) {l : List Nat} (hO : Only l w w') (hv : ∀ b off n cap, v = .slice (some ⟨b, off, none⟩) n cap → b ∉ l) : Row w' v xs := h.only hO hv
theorem Only.past {l m : List Nat} {w w1 w2 : World} (h : Only l w w1) (k : Only m w1 w2) (hm : ∀ q ∈ m, q ∈ l ∨ w.heap.size ≤ q) : Only l w w2 :=
  ⟨k.os.trans h.os, k.tape.trans h.tape, k.output.trans h.output, Nat.le_trans h.size k.size, fun i hi hn => (k.block i (Nat.lt_of_lt_of_le hi h.size) (fun e => by
    rcases hm i e with h' | h'
    · exact hn h'
    · omega)).trans (h.block i hi hn)⟩
end Go.Proofs.Ythiehpofmlbehaa
