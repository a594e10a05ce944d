/-
  Plain matter of garretlaw08.HalfCounts: which records are found.
-/
import Derived.Test.YtgkgbbffgcmekaaAwake08
namespace Go.Proofs.Ytgkgbbffgcmekaa
open Go.RowKit
set_option linter.unusedVariables false
set_option maxRecDepth 100000

theorem recB_flag (b : List Int) : (recB b).getD (b.length + 6) 0 = 0 := by
  rw [recB, getD_right (by rw [bodyB_length]; omega), bodyB_length]
  simp
theorem recB_last (b : List Int) : (recB b).take (b.length + 6) ++ [0] = recB b := by
  rw [recB, List.take_left' (bodyB_length b)]
theorem found_two (a b : List Int) (ha : a.length ≤ 65000) (hb : b.length ≤ 65000) (z : Nat) : Found (recB a ++ (recB b ++ List.replicate z 255)) [a, b] (a.length + 7 + (b.length + 7)) := by
  have := found_recs (bs := [a, b]) (rest := List.replicate z 255) (fun c hc => by simp at hc; rcases hc with rfl | rfl <;> assumption) (blank_found z)
  simpa [recs, recB_length] using this
theorem found_first (a rest : List Int) (ha : a.length ≤ 65000) (h : firstS rest = none) : Found (recB a ++ rest) [a] (a.length + 7) := by
  have := found_recs (bs := [a]) (rest := rest) (fun c hc => by simp at hc; subst hc; exact ha) (.stop h)
  simpa [recs, recB_length] using this
theorem getD_bys {xs : List Int} (h : Bys xs) (j : Nat) : 0 ≤ xs.getD j 0 ∧ xs.getD j 0 < 256 := by
  rcases Nat.lt_or_ge j xs.length with h' | h'
  · have e : xs.getD j 0 = xs[j] := by simp [List.getD, List.getElem?_eq_getElem h']
    rw [e]; exact h _ (List.getElem_mem h')
  · have e : xs.getD j 0 = 0 := by simp [List.getD, List.getElem?_eq_none h']
    rw [e]; omega

theorem counts_plain {N : NSt} (ok : N.Ok 0) {M : Nat} (hM : N.bs = List.replicate M 255) (hM2 : 2 * halfZ N ≤ M) (a b : List Int) (ha : a.length ≤ 60) (hb : b.length ≤ 60) (hA : Bys a) (hB : Bys b) (cut : Nat) (mask : Int) (hm : 0 ≤ mask ∧ mask < 256) :
    ∃ (S1 : PSt) (bs1 : List Int) (x : Int) (S2 : PSt) (bs2 : List Int) (ws : List (List Int)) (m : Nat), appH PSt.zero N 0 0 a = (0, S1, bs1) ∧ appH (S1.cut cut mask) { N with bs := bs1 } 0 (a.length + 7 : Nat) b = (x, S2, bs2) ∧ ((b.length + 7 ≤ cut ∧ x = 0) ∨ (cut < b.length + 7 ∧ x = 6)) ∧ Found (part bs2 0 (halfZ N)) ws m ∧
      ((b.length + 7 ≤ cut ∨ (cut = b.length + 6 ∧ mask = 0)) ∧ ws = [a, b] ∨ (cut < b.length + 7 ∧ ¬ (cut = b.length + 6 ∧ mask = 0)) ∧ ws = [a]) := by
  have hz := halfZ_big ok
  have hl0 : N.bs.length = M := by rw [hM]; simp
  have e0 : part N.bs 0 (halfZ N) = List.replicate (halfZ N) 255 := by rw [hM, part_new _ (by omega) hM2]
  have h1 := app_free (S := PSt.zero) (N := N) (H := 0) (q := 0) (b := a) ok (by omega) (by omega) (by omega) rfl rfl (fun j hj => by
    rw [e0]
    exact getD_rep7 (by omega))
  obtain ⟨bs1, hbs1⟩ : ∃ l, over N.bs (0 * halfZ N + 0) (recB a) = l := ⟨_, rfl⟩
  have l1 : bs1.length = M := by rw [← hbs1, over_length, hl0]
  have b1 : Bys bs1 := by rw [← hbs1]; exact over_bys ok.bys (recB_bys hA) _
  have ra := recB_length a
  have rb := recB_length b
  obtain ⟨Z', hZ'⟩ : ∃ z, z = halfZ N - (a.length + 7) := ⟨_, rfl⟩
  have p1 : part bs1 0 (halfZ N) = recB a ++ List.replicate Z' 255 := by
    rw [← hbs1, part_over (bs := N.bs) (H := 0) (recB a) 0 (by omega) (by omega), e0, over_rep _ _ _ (by omega), ra, hZ']
  rw [hbs1] at h1
  have ok1 : NSt.Ok { N with bs := bs1 } 0 := ok.bytes (l1.trans hl0.symm) b1
  have hz1 : halfZ { N with bs := bs1 } = halfZ N := rfl
  have hbl : ∀ j, j < b.length + 7 → (part bs1 0 (halfZ N)).getD (a.length + 7 + j) 0 = 255 := fun j hj => by
    rw [p1, getD_right (by omega), ra, show a.length + 7 + j - (a.length + 7) = j by omega]
    exact getD_rep7 (by omega)
  obtain ⟨S1, hS1⟩ : ∃ s : PSt, ({ PSt.zero with steps := PSt.zero.steps + (a.length + 7) } : PSt) = s := ⟨_, rfl⟩
  rw [hS1] at h1
  have s1 : S1.off = false := by rw [← hS1]; rfl
  have h2 := app_torn (S := S1.cut cut mask) (N := { N with bs := bs1 }) (H := 0) (q := a.length + 7) (b := b) ok1 (by omega) (by omega) (by rw [hz1]; omega) (c := cut) s1 (by simp [PSt.cut]) rfl hm (by rw [hz1]; exact hbl)
  rw [hz1] at h2
  simp only [Int.ofNat_zero] at h2
  have hmk : (S1.cut cut mask).mask = mask := rfl
  rw [hmk] at h2
  by_cases hc : b.length + 7 ≤ cut
  · rw [if_pos hc] at h2
    refine ⟨S1, bs1, _, _, _, [a, b], a.length + 7 + (b.length + 7), h1, h2, .inl ⟨hc, rfl⟩, ?_, .inl ⟨.inl hc, rfl⟩⟩
    have p2 : part (over bs1 (0 * halfZ N + (a.length + 7)) (recB b)) 0 (halfZ N) = recB a ++ (recB b ++ List.replicate (Z' - (recB b).length) 255) := by
      rw [part_over (bs := bs1) (H := 0) (recB b) (a.length + 7) (by omega) (by omega), p1, ← ra, over_right, over_rep _ _ _ (by omega)]
    rw [p2]
    exact found_two a b (by omega) (by omega) _
  · rw [if_neg hc] at h2
    have hy := bits_u8 .or ((recB b).getD cut 0) mask
    have hyf : cut = b.length + 6 → bits .or .u8 ((recB b).getD cut 0) mask = mask := fun e => by
      rw [e, recB_flag]; exact or_zero8 hm
    generalize bits .or .u8 ((recB b).getD cut 0) mask = y at *
    have tl : ((recB b).take cut).length = cut := by rw [List.length_take]; omega
    have p2 : part ((over bs1 (0 * halfZ N + (a.length + 7)) ((recB b).take cut)).set (0 * halfZ N + (a.length + 7) + cut) y) 0 (halfZ N) = recB a ++ ((recB b).take cut ++ (y :: List.replicate (Z' - cut - 1) 255)) := by
      rw [Nat.add_assoc, part_set (H := 0) (a.length + 7 + cut) y (by omega) (by rw [over_length]; omega), part_over (bs := bs1) (H := 0) ((recB b).take cut) (a.length + 7) (by omega) (by omega), p1, ← ra, over_right, over_rep _ _ _ (by omega), tl, List.set_append_right _ _ (by omega), Nat.add_sub_cancel_left]
      have := set_rep ((recB b).take cut) (Z' - cut) 255 y (by omega)
      rw [tl] at this
      rw [this]
    by_cases hf : cut = b.length + 6 ∧ mask = 0
    · refine ⟨S1, bs1, _, _, _, [a, b], a.length + 7 + (b.length + 7), h1, h2, .inr ⟨by omega, rfl⟩, ?_, .inl ⟨.inr hf, rfl⟩⟩
      rw [p2, hyf hf.1, hf.2, hf.1, show (recB b).take (b.length + 6) ++ (0 :: List.replicate (Z' - (b.length + 6) - 1) 255) = recB b ++ List.replicate (Z' - (b.length + 6) - 1) 255 from by
        rw [List.append_cons, recB_last]]
      exact found_two a b (by omega) (by omega) _
    · refine ⟨S1, bs1, _, _, _, [a], a.length + 7, h1, h2, .inr ⟨by omega, rfl⟩, ?_, .inr ⟨⟨by omega, hf⟩, rfl⟩⟩
      rw [p2]
      refine found_first a _ (by omega) (firstS_ripped b (by omega) cut _ (by omega) y hy (fun e => ?_))
      rw [hyf e]
      intro e2
      exact hf ⟨e, e2⟩
end Go.Proofs.Ytgkgbbffgcmekaa
