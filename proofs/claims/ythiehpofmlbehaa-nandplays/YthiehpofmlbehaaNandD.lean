/-
  The contracts of package nand: a block is erased.
-/
import Derived.Test.YthiehpofmlbehaaNandB
namespace Go.Proofs.Ythiehpofmlbehaa
open Go.RowKit
set_option linter.unusedVariables false
set_option maxRecDepth 100000

theorem at_in (N : DSt) {i kk a b j : Nat} (hk : kk ≤ N.D) (hb : b < N.D) (hj : j < N.E + 16) : (N.at i 0 ≤ N.at a b + j ∧ N.at a b + j < N.at i 0 + kk * (N.E + 16)) ↔ (a = i ∧ b < kk) := by
  unfold DSt.at
  rw [Nat.add_zero, ← Nat.add_mul]
  generalize hz : N.E + 16 = z at *
  constructor
  · rintro ⟨h1, h2⟩
    have e1 : i * N.D ≤ a * N.D + b := by
      rcases Nat.lt_or_ge (a * N.D + b) (i * N.D) with h | h
      · have := q_apart (z := z) h; omega
      · exact h
    have e2 : a * N.D + b < i * N.D + kk := by
      rcases Nat.lt_or_ge (a * N.D + b) (i * N.D + kk) with h | h
      · exact h
      · have := Nat.mul_le_mul_right z h; omega
    have e3 : a = i := by
      rcases Nat.lt_trichotomy a i with h | h | h
      · have := q_apart (z := N.D) h; omega
      · exact h
      · have := q_apart (z := N.D) h; omega
    subst e3
    omega
  · rintro ⟨rfl, h⟩
    have e1 := q_apart (z := z) (show a * N.D + b < a * N.D + kk by omega)
    have e2 := Nat.mul_le_mul_right z (show a * N.D ≤ a * N.D + b by omega)
    omega
def DSt.tear (N : DSt) (i : Nat) (m : Int) (k : Nat) : DSt := { N with bs := fill N.bs (N.at i 0) m (k * (N.E + 16)) }
theorem tear_zero (N : DSt) (i : Nat) (m : Int) : N.tear i m 0 = N := by
  unfold DSt.tear; rw [Nat.zero_mul]; rfl
theorem tear_all (N : DSt) (i : Nat) (m : Int) : N.tear i m N.D = N.wipe i m := rfl
theorem tear_pg {N : DSt} {n : Nat} (ok : N.Ok n) {i kk a b : Nat} (m : Int) (hi : i < N.C) (hk : kk ≤ N.D) (ha : a < N.C) (hb : b < N.D) : (N.tear i m kk).pg a b = if a = i ∧ b < kk then (N.pg a b).map (fun x => bits .or .u8 x m) else N.pg a b := by
  have hbl := DSt.block_le ok hi
  have hle := ok.at_le ha hb
  have hkz := Nat.mul_le_mul_right (N.E + 16) hk
  have hfl : (N.tear i m kk).bs.length = N.bs.length := fill_length _ _ _ _
  have hat : ∀ j, (N.tear i m kk).bs.getD j 0 = if N.at i 0 ≤ j ∧ j < N.at i 0 + kk * (N.E + 16) then bits .or .u8 (N.bs.getD j 0) m else N.bs.getD j 0 := fun j => fill_at N.bs (N.at i 0) m (kk * (N.E + 16)) j (by omega)
  refine pgs_eq (by rw [hfl]; exact hle) ?_ (fun j hj => ?_)
  · split
    · rw [List.length_map]; exact ok.pgLen ha hb
    · exact ok.pgLen ha hb
  · have hj' : j < N.E + 16 := hj
    have hpj : (N.pg a b).getD j 0 = N.bs.getD (N.at a b + j) 0 := pgs_at hj'
    show (N.tear i m kk).bs.getD (N.at a b + j) 0 = _
    rw [hat]
    by_cases e : a = i ∧ b < kk
    · rw [if_pos ((at_in N hk hb hj').2 e), if_pos e, getD_map _ _ _ (by rw [ok.pgLen ha hb]; exact hj'), hpj]
    · rw [if_neg (fun h => e ((at_in N hk hb hj').1 h)), if_neg e, hpj]
theorem or_255' {m : Int} (h : 0 ≤ m ∧ m < 256) : bits .or .u8 255 m = 255 := by
  obtain ⟨n, rfl⟩ := byte_nat h
  exact (by decide +kernel : ∀ n : Fin 256, bits .or .u8 255 (n.val : Int) = 255) n
theorem map_255 (z : Nat) {m : Int} (h : 0 ≤ m ∧ m < 256) : (List.replicate z (255 : Int)).map (fun x => bits .or .u8 x m) = List.replicate z 255 := by
  rw [List.map_replicate, or_255' h]
theorem map_all_255 {xs : List Int} {z : Nat} (hl : xs.length = z) (hb : Bys xs) : xs.map (fun x => bits .or .u8 x 255) = List.replicate z 255 := by
  refine list_ext5 (by simp [hl]) (fun j hj => ?_)
  rw [List.length_map] at hj
  rw [getD_map _ _ _ hj, getD_rep _ _ _ (by omega), or_255 (hb.at j)]

/-- One page more. -/
theorem Pages.torn {base n : Nat} {w w' : World} {L : DLay} {N : DSt} {f : Nat → Nat → Option Value} {i k : Nat} {m : Int} (ok : N.Ok n) (hi : i < N.C) (hk : k < N.D) (hm : 0 ≤ m ∧ m < 256) (h : Pages base w L (N.tear i m k) f)
    (hs : ∀ v, f i k = some v → Own base w' v ((N.pg i k).map (fun x => bits .or .u8 x m)) ∧ ∃ g n cap, v = .slice (some ⟨g, 0, none⟩) n cap ∧ Only [g] w w') (hn : f i k = none → w' = w) : Pages base w' L (N.tear i m (k + 1)) f := by
  have hpk : (N.tear i m k).pg i k = N.pg i k := by rw [tear_pg ok m hi (by omega) hi hk, if_neg (by omega)]
  have hstep : ∀ a b, a < N.C → b < N.D → ¬ (a = i ∧ b = k) → (N.tear i m (k + 1)).pg a b = (N.tear i m k).pg a b := by
    intro a b ha hb hne
    rw [tear_pg ok m hi (by omega) ha hb, tear_pg ok m hi (by omega) ha hb]
    by_cases e : a = i ∧ b < k
    · rw [if_pos e, if_pos (by omega)]
    · rw [if_neg e, if_neg (by omega)]
  have hself : (N.tear i m (k + 1)).pg i k = (N.pg i k).map (fun x => bits .or .u8 x m) := by rw [tear_pg ok m hi (by omega) hi hk, if_pos (by omega)]
  refine ⟨?_, ?_, h.inj⟩
  · intro a b v ha hb hv
    obtain ⟨g, cap, rfl, ho, hne, hx⟩ := h.own a b v ha hb hv
    refine ⟨g, cap, rfl, ?_, hne, hx⟩
    by_cases e : a = i ∧ b = k
    · obtain ⟨rfl, rfl⟩ := e
      rw [hself]
      exact (hs _ hv).1
    · rw [hstep a b ha hb e]
      cases hfk : f i k with
      | none => rw [hn hfk]; exact ho
      | some u =>
        obtain ⟨_, g', n', cap', rfl, hO⟩ := hs u hfk
        refine ho.only hO (fun q hq hmem => ?_)
        cases hq
        simp at hmem
        subst hmem
        exact e (h.inj a b i k g _ _ _ _ ha hb hi hk hv hfk)
  · intro a b ha hb hv
    by_cases e : a = i ∧ b = k
    · obtain ⟨rfl, rfl⟩ := e
      have := h.non a b ha hb hv
      rw [hpk] at this
      rw [hself, this]
      exact map_255 _ hm
    · rw [hstep a b ha hb e]
      exact h.non a b ha hb hv
/-- The pages that are left have all bits. -/
theorem Pages.tornAll {base n : Nat} {w : World} {L : DLay} {N : DSt} {f : Nat → Nat → Option Value} {i k : Nat} {m : Int} (ok : N.Ok n) (hi : i < N.C) (hk : k ≤ N.D) (hnx : (k : Int) = N.nx.getD i 0) (hm : 0 ≤ m ∧ m < 256) (h : Pages base w L (N.tear i m k) f) : Pages base w L (N.wipe i m) f := by
  have hsame : ∀ a b, a < N.C → b < N.D → (N.wipe i m).pg a b = (N.tear i m k).pg a b := by
    intro a b ha hb
    rw [← tear_all, tear_pg ok m hi (Nat.le_refl _) ha hb, tear_pg ok m hi hk ha hb]
    by_cases e : a = i ∧ b < k
    · rw [if_pos e, if_pos (by omega)]
    · rw [if_neg e]
      by_cases e2 : a = i ∧ b < N.D
      · rw [if_pos e2]
        obtain ⟨rfl, _⟩ := e2
        have hnone : f a b = none := by
          cases hf : f a b with
          | none => rfl
          | some v =>
            obtain ⟨_, _, _, _, _, hx⟩ := h.own a b v ha hb hf
            have : (b : Int) < N.nx.getD a 0 := hx
            omega
        have hp := h.non a b ha hb hnone
        rw [tear_pg ok m hi hk ha hb, if_neg e] at hp
        rw [hp]
        exact map_255 _ hm
      · rw [if_neg e2]
  refine ⟨?_, ?_, h.inj⟩
  · intro a b v ha hb hv
    obtain ⟨g, cap, rfl, ho, hne, hx⟩ := h.own a b v ha hb hv
    exact ⟨g, cap, rfl, by rw [hsame a b ha hb]; exact ho, hne, hx⟩
  · intro a b ha hb hv
    rw [hsame a b ha hb]
    exact h.non a b ha hb hv
/-- No page of a block is there any more. -/
theorem Pages.wiped {base n : Nat} {w w' : World} {L : DLay} {N : DSt} {f g : Nat → Nat → Option Value} {i : Nat} (ok : N.Ok n) (hi : i < N.C) (h : Pages base w L N f) (hO : Only [L.mb, L.nb] w w') (hlt : L.nb < base)
    (hg : ∀ a b, a < N.C → b < N.D → g a b = if a = i ∧ (b : Int) < N.nx.getD i 0 then none else f a b) : Pages base w' L { (N.wipe i 255) with nx := N.nx.set i 0 } g := by
  have hps := h.only hO (fun q hq => by simp at hq; rcases hq with rfl | rfl; exact .inr (.inl rfl); exact .inl hlt)
  have hnone : ∀ b, b < N.D → g i b = none := by
    intro b hb
    rw [hg i b hi hb]
    by_cases e : (b : Int) < N.nx.getD i 0
    · rw [if_pos ⟨rfl, e⟩]
    · rw [if_neg (fun h => e h.2)]
      cases hf : f i b with
      | none => rfl
      | some v => obtain ⟨_, _, _, _, _, hx⟩ := h.own i b v hi hb hf; exact absurd hx e
  have hother : ∀ a b, a < N.C → b < N.D → a ≠ i → g a b = f a b := by
    intro a b ha hb hne
    rw [hg a b ha hb, if_neg (fun h => hne h.1)]
  have hpg : ∀ a b, a < N.C → b < N.D → (N.wipe i 255).pg a b = if a = i then List.replicate (N.E + 16) 255 else N.pg a b := by
    intro a b ha hb
    rw [← tear_all, tear_pg ok 255 hi (Nat.le_refl _) ha hb]
    by_cases e : a = i
    · rw [if_pos ⟨e, hb⟩, if_pos e]
      exact map_all_255 (ok.pgLen ha hb) (pgs_bys ok.bys _ _)
    · rw [if_neg (fun h => e h.1), if_neg e]
  refine ⟨?_, ?_, ?_⟩
  · intro a b v ha hb hv
    have hne : a ≠ i := by
      intro e
      subst e
      rw [hnone b hb] at hv
      cases hv
    rw [hother a b ha hb hne] at hv
    obtain ⟨q, cap, rfl, ho, hq, hx⟩ := hps.own a b v ha hb hv
    refine ⟨q, cap, rfl, ?_, hq, ?_⟩
    · show Own base w' _ ((N.wipe i 255).pg a b)
      rw [hpg a b ha hb, if_neg hne]
      exact ho
    · show (b : Int) < (N.nx.set i 0).getD a 0
      rw [getD_set_ne _ _ _ _ (fun e => hne e.symm)]
      exact hx
  · intro a b ha hb hv
    show (N.wipe i 255).pg a b = _
    rw [hpg a b ha hb]
    by_cases e : a = i
    · rw [if_pos e]; rfl
    · rw [if_neg e]
      rw [hother a b ha hb e] at hv
      exact h.non a b ha hb hv
  · intro a b a' b' q n c n' c' ha hb ha' hb' hv hv'
    have h1 : a ≠ i := by
      intro e
      subst e
      rw [hnone b hb] at hv
      cases hv
    have h2 : a' ≠ i := by
      intro e
      subst e
      rw [hnone b' hb'] at hv'
      cases hv'
    rw [hother a b ha hb h1] at hv
    rw [hother a' b' ha' hb' h2] at hv'
    exact h.inj a b a' b' q n c n' c' ha hb ha' hb' hv hv'
end Go.Proofs.Ythiehpofmlbehaa
