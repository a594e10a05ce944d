/-
  The contracts of package nand: a page is read.
-/
import Derived.Test.YthiehpofmlbehaaNandB
namespace Go.Proofs.Ythiehpofmlbehaa
open Go.RowKit
set_option linter.unusedVariables false
set_option maxRecDepth 100000

theorem Fresh.mono {base base' : Nat} {w : World} {v : Value} {xs : List Int} (h : Fresh base w v xs) (hb : base' ≤ base) : Fresh base' w v xs := by
  rcases h with h | ⟨g, hv, hg, h⟩
  · exact .inl (h.mono hb)
  · exact .inr ⟨g, hv, Nat.le_trans hb hg, h⟩
theorem Fresh.nil (base : Nat) (w : World) : Fresh base w (.slice none 0 0) [] := .inl (Own.nil _ _)

abbrev HoldR (W : World) (c : Nat) (E : Int) (w : World) : Prop := (w.cell? ⟨c, 4, none⟩ = some (.int .i64 E) ∧ W.heap.size ≤ w.heap.size) ∧ Below W.heap.size W w
theorem holdR_of {W w : World} {c : Nat} {E : Int} (hc : W.cell? ⟨c, 4, none⟩ = some (.int .i64 E)) (hlt : c < W.heap.size) (hb : Below W.heap.size W w) : HoldR W c E w := ⟨⟨(hb.cell (by exact hlt)).trans hc, hb.size⟩, hb⟩

set_option maxHeartbeats 4000000 in
theorem Read5_any (base : Nat) (w : World) (L : DLay) (N : DSt) (m n : Nat) (h : NChip base w L N m) (ok : N.Ok n) (b p : Int) (hb : (Lit.int .i64 b).wf = true) (hp : (Lit.int .i64 p).wf = true) :
    Calls Try.prog 24 #[.pointer (some ⟨L.c, 0, none⟩), .int .i64 b, .int .i64 p] w fun e w' =>
      ∃ u v, e = .returned (.tuple #[u, v, .int .i64 (readD N b p).1]) ∧ Fresh w.heap.size w' u (readD N b p).2.1 ∧ Fresh w.heap.size w' v (readD N b p).2.2 ∧ Below w.heap.size w w' := by
  have hP := isPage_any base w L N m n h ok b p hb
  have hcl := h.blk.lt
  have c4 := h.blk.cell 4
  have c6 := h.blk.cell 6
  simp [dcells] at c4 c6
  by_cases h0 : isP N b p = true
  · rw [h0] at hP
    have hu := isP_of h0
    obtain ⟨i, rfl⟩ := Int.eq_ofNat_of_zero_le hu.1.1
    obtain ⟨k, rfl⟩ := Int.eq_ofNat_of_zero_le hu.2.1
    have hi : i < N.C := by omega
    have hk : k < N.D := by omega
    have hC1 := ok.C1
    have hD1 := ok.D1
    have hE0 := ok.E0
    have hE1 := ok.E1
    have ha := ok.at_le hi hk
    obtain ⟨f, hf, hpg⟩ := h.pgs
    have hlook := hf.look i k (by omega) (by omega)
    have hr : readD N i k = (0, pgs N.bs (N.at i k) N.E, pgs N.bs (N.at i k + N.E) 16) := by unfold readD; rw [h0]; rfl
    have e1 := pgs_take N.bs (N.at i k) N.E 16 (by omega)
    have e2 := pgs_drop N.bs (N.at i k) N.E 16 (by omega)
    rw [hr]
    simp only
    rw [← e1, ← e2]
    clear hr e1 e2 h0 hu ha
    cases hfk : f i k with
    | none =>
      rw [hfk] at hlook
      simp only [Option.getD_none, Option.isSome_none] at hlook
      have hnon := hpg.non i k hi hk hfk
      have hnon' : pgs N.bs (N.at i k) (N.E + 16) = List.replicate (N.E + 16) 255 := hnon
      rw [hnon', List.take_replicate, List.drop_replicate, Nat.min_eq_left (by omega), Nat.add_sub_cancel_left]
      have hE := erasedCells_any w N.E (by omega) (by omega)
      clear hpg hf hnon hnon'
      go_enter Try.func24, Try.ntmps24
      go_wp2_with fail
      refine hP.mono ?_
      rintro e w0 ⟨rfl, rfl⟩
      go_wp2_with fail
      refine hE.mono ?_
      rintro e w1 ⟨u, rfl, hu1, hB1⟩
      have hE2 := erasedCells_any w1 16 (by omega) (by omega)
      obtain ⟨ua, ucap, rfl⟩ := hu1.row.of_len
      go_wp2_with fail
      refine hE2.mono ?_
      rintro e w2 ⟨v, rfl, hv2, hB2⟩
      have hu2 := hu1.kept hB2
      have hv2' := hv2.mono hB1.size
      have hB := hB1.trans (hB2.mono hB1.size)
      obtain ⟨va, vcap, rfl⟩ := hv2.row.of_len
      clear hE hE2 hP hlook c4 c6 hu1 hv2 hB1 hB2
      go_wp2
      go_ret3
      exact ⟨_, _, rfl, by simpa using hu2, by simpa using hv2', hB⟩
    | some v =>
      obtain ⟨g, cap, rfl, hown, hn, hx⟩ := hpg.own i k v hi hk hfk
      rw [hfk] at hlook
      simp only [Option.getD_some, Option.isSome_some] at hlook
      have hrow : Row w (.slice (some ⟨g, 0, none⟩) (N.E + 16) cap) (pgs N.bs (N.at i k) (N.E + 16)) := hown.row
      have hcaps := hrow.caps
      have r1 := hrow.cut N.E (by omega)
      have r2 := hrow.dropped N.E (by omega)
      rw [Nat.zero_add, Nat.add_sub_cancel_left] at r2
      generalize (pgs N.bs (N.at i k) (N.E + 16)).take N.E = xs at *
      generalize (pgs N.bs (N.at i k) (N.E + 16)).drop N.E = ys at *
      have k1 : ∀ W, Below w.heap.size w W → _ := fun W hW => Clone5_any W g 0 N.E cap xs (r1.below hW) (by omega)
      have k2 : ∀ W, Below w.heap.size w W → _ := fun W hW => Clone5_any W g N.E 16 (cap - N.E) ys (r2.below hW) (by omega)
      have hK0 := holdR_of c4 hcl (Below.refl _ _)
      have HC := hide c4
      have hEc : N.E + 16 ≤ cap := hcaps.2.1
      have hEm : cap ≤ 9223372036854775807 := by have := hcaps.2.2; unfold maxLen at this; omega
      have hz0 : (0 : Int) ≤ (N.E : Int) := by omega
      have hz1 : (N.E : Int) ≤ (cap : Int) := by omega
      have hz2 : ¬ N.E = cap := by omega
      have hz4 : (N.E : Int) ≤ ((N.E + 16 : Nat) : Int) := by omega
      have hz3 : N.E + 16 - N.E = 16 := by omega
      have hz5 : ((N.E + 16 : Nat) : Int) ≤ (cap : Int) := by omega
      clear hpg hf hown hrow r1 r2 hcaps hn hx
      generalize hz : N.E + 16 = z at *
      go_enter Try.func24, Try.ntmps24
      go_wp2_with fail
      refine hP.mono ?_
      rintro e w0 ⟨rfl, rfl⟩
      go_wp2_with fail
      go_region_held3 (fun w' => (w'.cell? ⟨L.c, 4, none⟩ = some (.int .i64 N.E) ∧ w0.heap.size ≤ w'.heap.size) ∧ Below w0.heap.size w0 w')
        (first
          | assumption
          | exact holdR_of HC.out hcl (Below.refl _ _).drew
          | exact holdR_of HC.out hcl (And.right (by assumption : HoldR w0 L.c N.E _)).drew
          | exact holdR_of HC.out hcl ((And.right (by assumption : HoldR w0 L.c N.E _)).trans (hB41.mono (And.right (by assumption : HoldR w0 L.c N.E _)).size))
          | exact holdR_of HC.out hcl ((And.right (by assumption : HoldR w0 L.c N.E _)).trans (hB42.mono (And.right (by assumption : HoldR w0 L.c N.E _)).size)))
        (first
          | (go_at_call_of 50 (Value.slice (some ⟨g, 0, none⟩) N.E cap); refine (k1 _ (And.right (by assumption : HoldR w0 L.c N.E _))).mono ?_; rintro e w41 ⟨v41, rfl, ho41, hB41⟩)
          | (go_at_call 50; refine (k2 _ (And.right (by assumption : HoldR w0 L.c N.E _))).mono ?_; rintro e w42 ⟨v42, rfl, ho42, hB42⟩))
      have hu : Fresh w0.heap.size w42 v41 xs := .inl (ho41.kept hB42)
      have hv : Fresh w0.heap.size w42 v42 ys := Fresh.mono (.inl ho42) hB41.size
      have hB := And.right (by assumption : HoldR w0 L.c N.E w42)
      obtain ⟨ua, ucap, rfl⟩ := hu.row.of_len
      obtain ⟨va, vcap, rfl⟩ := hv.row.of_len
      clear k1 k2 hK0 HC ho41 ho42 hB41 hB42 hlook hP c4 c6
      go_wp2
      go_ret3
      exact ⟨_, _, rfl, hu, hv, hB⟩
  · have h0' : isP N b p = false := by simpa using h0
    have hr : readD N b p = (1, [], []) := by unfold readD; rw [h0']; rfl
    rw [hr]
    rw [h0'] at hP
    clear hr h0 h0'
    go_enter Try.func24, Try.ntmps24
    go_wp2_with fail
    refine hP.mono ?_
    rintro e w1 ⟨rfl, rfl⟩
    go_wp2
    go_ret3
    exact ⟨_, _, rfl, Fresh.nil _ _, Fresh.nil _ _, Below.refl _ _⟩
end Go.Proofs.Ythiehpofmlbehaa
