/-
  Plain laws for garretlaw07.FrameTorn: where records end; what is found of those that are cut, or spoilt.
-/
import Derived.Test.YtgkgbbffgcmekaaFrameQ
import Derived.Test.YtgkgbbffgcmekaaInts
namespace Go.Proofs.Ytgkgbbffgcmekaa
open Go.RowKit
set_option linter.unusedVariables false
set_option linter.unusedSimpArgs false

/-- Where the first i records end. -/
def fE (B : List (List Int)) (i : Nat) : Nat := (recs (B.take i)).length
theorem fE_zero (B : List (List Int)) : fE B 0 = 0 := by simp [fE, recs]
theorem take_more7 {xs : List (List Int)} {k : Nat} (h : k < xs.length) : xs.take (k + 1) = xs.take k ++ [xs.getD k []] := by
  rw [List.take_succ_eq_append_getElem h]; simp [List.getD, List.getElem?_eq_getElem h]
theorem fE_succ {B : List (List Int)} {i : Nat} (h : i < B.length) : fE B (i + 1) = fE B i + ((B.getD i []).length + 7) := by
  unfold fE
  rw [take_more7 h, recs_snoc, List.length_append, recB_length]
theorem fE_all (B : List (List Int)) : fE B B.length = (recs B).length := by simp [fE]
theorem fE_le (B : List (List Int)) (i : Nat) : fE B i ≤ (recs B).length := by
  have : recs B = recs (B.take i) ++ recs (B.drop i) := by rw [← recs_app, List.take_append_drop]
  rw [this, List.length_append]
  exact Nat.le_add_right _ _
/-- The last one that ends by c. -/
def Last (B : List (List Int)) (k c W : Nat) : Prop := W ≤ k ∧ fE B W ≤ c ∧ ∀ i, W < i → i ≤ k → c < fE B i
theorem Last.zero (B : List (List Int)) (c : Nat) : Last B 0 c 0 := ⟨Nat.le_refl _, by rw [fE_zero]; exact Nat.zero_le _, fun i h1 h2 => by omega⟩
theorem Last.yes {B : List (List Int)} {k c W : Nat} (h : Last B k c W) (hc : fE B (k + 1) ≤ c) : Last B (k + 1) c (k + 1) := ⟨Nat.le_refl _, hc, fun i h1 h2 => by omega⟩
theorem Last.no {B : List (List Int)} {k c W : Nat} (h : Last B k c W) (hc : ¬ fE B (k + 1) ≤ c) : Last B (k + 1) c W :=
  ⟨Nat.le_succ_of_le h.1, h.2.1, fun i h1 h2 => by
    rcases Nat.lt_or_ge k i with h3 | h3
    · obtain rfl : i = k + 1 := by omega
      omega
    · exact h.2.2 i h1 h3⟩
theorem drop_more7 {B : List (List Int)} {k : Nat} (h : k < B.length) : B.drop k = B.getD k [] :: B.drop (k + 1) := by
  rw [List.drop_eq_getElem_cons h]; simp [List.getD, List.getElem?_eq_getElem h]
theorem getD_mem7 {B : List (List Int)} {k : Nat} (h : k < B.length) : B.getD k [] ∈ B := by
  have : B.getD k [] = B[k] := by simp [List.getD, List.getElem?_eq_getElem h]
  rw [this]
  exact List.getElem_mem h
theorem recs_split (B : List (List Int)) (W : Nat) : recs B = recs (B.take W) ++ recs (B.drop W) := by rw [← recs_app, List.take_append_drop]
theorem clean_rep (z : Nat) : clean (List.replicate z 255) = true := by
  unfold clean
  rw [List.all_eq_true]
  intro x hx
  rw [List.mem_replicate] at hx
  simp [hx.2]
/-- Of records whose end is torn those are found that are whole. -/
theorem found_torn {B : List (List Int)} (hl : ∀ b ∈ B, b.length ≤ 65000) {c W : Nat} (hc : c ≤ (recs B).length) (h : Last B B.length c W) (z : Nat) :
    Found ((recs B).take c ++ List.replicate z 255) (B.take W) (fE B W) ∧ (fE B W = c → clean (((recs B).take c ++ List.replicate z 255).drop (fE B W)) = true) := by
  obtain ⟨h1, h2, h3⟩ := h
  have hW : (recs (B.take W)).length = fE B W := rfl
  have e : (recs B).take c = recs (B.take W) ++ (recs (B.drop W)).take (c - fE B W) := by
    conv => lhs; rw [recs_split B W]
    rw [List.take_append, hW, List.take_of_length_le (by rw [hW]; exact h2)]
  have hn : firstS ((recs (B.drop W)).take (c - fE B W) ++ List.replicate z 255) = none := by
    rcases Nat.lt_or_ge W B.length with hw | hw
    · have h4 := h3 (W + 1) (by omega) (by omega)
      rw [fE_succ hw] at h4
      have hbl := hl _ (getD_mem7 hw)
      rw [drop_more7 hw, recs_cons, recB, List.append_assoc, List.take_append_of_le_length (by rw [bodyB_length]; omega)]
      exact firstS_torn _ hbl _ z (by omega)
    · rw [List.drop_of_length_le hw]
      have := firstS_torn [] (by simp) 0 z (by simp)
      simpa [recs] using this
  constructor
  · rw [e, List.append_assoc]
    have := found_recs (bs := B.take W) (fun b hb => hl b (List.mem_of_mem_take hb)) (Found.stop hn)
    simpa [hW] using this
  · intro hcw
    rw [e, List.append_assoc, List.drop_left' hW, hcw, Nat.sub_self, List.take_zero, List.nil_append]
    exact clean_rep z
/-- A byte that is another one takes its record away, and what is behind it. -/
theorem found_spoilt {B : List (List Int)} (hl : ∀ b ∈ B, b.length ≤ 65000) (hb : ∀ b ∈ B, Bys b) {a S : Nat} (ha : a < (recs B).length) (h : Last B B.length a S) (h2 : 2 ≤ a - fE B S) (v : Int) (hv : 0 ≤ v ∧ v < 256) (hne : v ≠ (recs B).getD a 0) :
    Found ((recs B).set a v) (B.take S) (fE B S) := by
  obtain ⟨h1, hle, h3⟩ := h
  have hS : (recs (B.take S)).length = fE B S := rfl
  have hw : S < B.length := by
    rcases Nat.lt_or_ge S B.length with hw | hw
    · exact hw
    · have : S = B.length := by omega
      rw [this, fE_all] at hle
      omega
  have h4 := h3 (S + 1) (by omega) (by omega)
  rw [fE_succ hw] at h4
  have hbl := hl _ (getD_mem7 hw)
  have hbb := hb _ (getD_mem7 hw)
  have e0 : recs B = recs (B.take S) ++ (recB (B.getD S []) ++ recs (B.drop (S + 1))) := by
    conv => lhs; rw [recs_split B S, drop_more7 hw, recs_cons]
  generalize B.getD S [] = b at *
  have hrl := recB_length b
  have hne' : v ≠ (recB b).getD (a - fE B S) 0 := by
    rw [e0, getD_right (by rw [hS]; exact hle), hS, getD_left (by omega)] at hne
    exact hne
  have e : (recs B).set a v = recs (B.take S) ++ ((recB b).set (a - fE B S) v ++ recs (B.drop (S + 1))) := by
    rw [e0, List.set_append_right _ _ (by rw [hS]; exact hle), hS, List.set_append_left _ _ (by omega)]
  rw [e]
  have := found_recs (bs := B.take S) (fun b hb => hl b (List.mem_of_mem_take hb)) (Found.stop (firstS_spoilt b (recs (B.drop (S + 1))) hbb hbl (a - fE B S) v h2 (by omega) hv hne'))
  simpa [hS] using this
/-- Rows of unlike elements lie apart. -/
theorem owns_besides {e e' : TypeId} (hne : e ≠ e') {base base' n n' : Nat} {w w' : World} {v v' : Value} {xs xs' : List Value} (h : w.ownsRow base e 1 v n xs) (ho : w.ownsRow base' e' 1 v' n' xs') (hg : w.grownBy w' v'.ownBlock) : w'.ownsRow base e 1 v n xs := by
  refine ⟨h.1, ?_⟩
  rcases h.2 with hn | ⟨g, cap, cur, hv, hbg, hh, r⟩
  · exact .inl hn
  · have hlt := (h.lt g (by rw [hv]; rfl)).2
    refine .inr ⟨g, cap, cur, hv, hbg, (hg.block g hlt ?_).trans hh, r⟩
    intro ee
    rcases ho.2 with ⟨hn, _⟩ | ⟨g', cap', cur', hv', _, hh', _⟩
    · rw [hn] at ee; cases ee
    · rw [hv'] at ee
      cases ee
      rw [hh] at hh'
      simp at hh'
      exact hne hh'.2
/-- 'int(uint(c) % uint(n))'. -/
theorem cut_big (c : Int) (n : Nat) (h : 0 < n) (hn : n ≤ 1000000) : ∃ k : Nat, k < n ∧ wrap64 ((IntKind.u64.wrap c).tmod (n : Int)) = (k : Int) := by
  have h0 : 0 ≤ c % 18446744073709551616 % (n : Int) := Int.emod_nonneg _ (by omega)
  have h1 : c % 18446744073709551616 % (n : Int) < n := Int.emod_lt_of_pos _ (by omega)
  refine ⟨((c % 18446744073709551616) % (n : Int)).toNat, by omega, ?_⟩
  rw [IntKind.wrap_u64, Int.tmod_eq_emod_of_nonneg (Int.emod_nonneg _ (by omega)), IntWalk.wrap64_in _ (by omega)]
  omega
end Go.Proofs.Ytgkgbbffgcmekaa
