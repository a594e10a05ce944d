/-
  The document's own chip of pages: Read.
-/
import Derived.Test.YthiehpofmlbehaaRNandD
import Derived.Test.YthiehpofmlbehaaDrawn
namespace Go.Proofs.Ythiehpofmlbehaa
open Go.RowKit
set_option linter.unusedVariables false
set_option maxRecDepth 100000

theorem kbr_step {w0 W W' : World} {a b : Nat} {u : Value} (hs : Below w0.heap.size W W') (ha : a < w0.heap.size) (h : W.cell? ⟨a, b, none⟩ = some u ∧ Below w0.heap.size w0 W) : W'.cell? ⟨a, b, none⟩ = some u ∧ Below w0.heap.size w0 W' := ⟨(hs.cell ha).trans h.1, h.2.trans hs⟩
set_option maxHeartbeats 4000000 in
theorem RRead5_any (w : World) (M : RLy) (N : DSt) (n : Nat) (h : RChip w M N) (ok : N.Ok n) (b p : Int) :
    Calls Try.prog 25 #[.pointer (some ⟨M.c, 0, none⟩), .int .i64 b, .int .i64 p] w fun e w' =>
      ∃ u v, e = .returned (.tuple #[u, v, .int .i64 (readD N b p).1]) ∧ Own w.heap.size w' u (readD N b p).2.1 ∧ Own w.heap.size w' v (readD N b p).2.2 ∧ Below w.heap.size w w' := by
  by_cases h0 : isP N b p = true
  · have hu := isP_of h0
    obtain ⟨i, rfl⟩ := Int.eq_ofNat_of_zero_le hu.1.1
    obtain ⟨k, rfl⟩ := Int.eq_ofNat_of_zero_le hu.2.1
    have hi : i < N.C := by omega
    have hk : k < N.D := by omega
    have hr : readD N i k = (0, pgs N.bs ((i * N.D + k) * (N.E + 16)) N.E, pgs N.bs ((i * N.D + k) * (N.E + 16) + N.E) 16) := by unfold readD; rw [h0]; rfl
    rw [hr]
    simp only
    have hpg := Rpage_at w M N n h ok i k hi hk
    have ha := ok.at_le hi hk
    have hbig := ok.big
    have hlen := ok.len
    have hE := ok.E1
    have hE0 := ok.E0
    unfold DSt.at at ha
    generalize (i * N.D + k) * (N.E + 16) = P at *
    have HPG := hide hpg
    have HM := hide h
    have hPb : (P : Int) ≤ 557056 := by omega
    clear hpg hr h0 hu hi hk h
    go_enter Try.func25, Try.ntmps25
    go_wp2_with fail
    refine Calls.mono HPG.out ?_
    rintro e w1 ⟨rfl, hO1⟩
    have hM1 := HM.out.only hO1 (by simp)
    obtain ⟨c2, c3, c4⟩ := hM1.gcell
    go_wp2_with fail
    go_region
    all_goals
      have hbd : Below w1.heap.size w1 w1.drew := (Below.refl _ _).drew
      have hM2 := hM1.below hbd
      have hB2 : Below w.heap.size w w1.drew := (hO1.below (Below.refl w.heap.size w) (by simp) (Nat.le_refl _)).drew
      generalize w1.drew = w2 at *
      have hrow := hM2.byt.row
      obtain ⟨bvv, hbv⟩ : ∃ z, z = Value.slice (some ⟨M.bb, 0, none⟩) N.bs.length M.bc := ⟨_, rfl⟩
      have c6 := hM2.bcell
      rw [← hbv] at hrow c6
      obtain ⟨xa, hsa, hra⟩ := hrow.btw P (P + N.E) (by omega) (by omega)
      obtain ⟨xb, hsb, hrb⟩ := hrow.btw (P + N.E) (P + N.E + 16) (by omega) (by omega)
      rw [Nat.add_sub_cancel_left] at hra hrb
      have q1 : ((P + N.E : Nat) : Int) = (P : Int) + N.E := by omega
      have q2 : ((P + N.E + 16 : Nat) : Int) = (P : Int) + N.E + 16 := by omega
      rw [q1] at hsa hsb
      rw [q2] at hsb
      have hsa' : ∀ w', (Instr.slice 43 bvv (some (.int .i64 (P : Int))) (some (.int .i64 ((P : Int) + N.E))) none).run Try.prog w' = .ok xa w' := fun w' => by rw [← run_sliceAt_slice _ _ _ _ _ _ sliceTy]; exact hsa w'
      have hsb' : ∀ w', (Instr.slice 43 bvv (some (.int .i64 ((P : Int) + N.E))) (some (.int .i64 ((P : Int) + N.E + 16))) none).run Try.prog w' = .ok xb w' := fun w' => by rw [← run_sliceAt_slice _ _ _ _ _ _ sliceTy]; exact hsb w'
      have hla : (pgs N.bs P N.E).length = N.E := pgs_length (by omega)
      have hlb : (pgs N.bs (P + N.E) 16).length = 16 := pgs_length (by omega)
      have HRA : Hid (Row w2 xa (pgs N.bs P N.E)) := hra
      have HRB : Hid (Row w2 xb (pgs N.bs (P + N.E) 16)) := hrb
      have HLA := hide hla
      have HLB := hide hlb
      have hcl : M.c < w2.heap.size := hM2.blk.lt
      have HC := hide (show w2.drew.cell? ⟨M.c, 6, none⟩ = some bvv ∧ Below w2.heap.size w2 w2.drew from ⟨c6, (Below.refl _ _).drew⟩)
      clear hra hrb q1 q2 hla hlb hM1 hM2 hrow hbv hbd c2 c3 c4 HM HPG hO1
      go_wp2_with fail
      go_region_held3 (fun w' => w'.cell? ⟨M.c, 6, none⟩ = some bvv ∧ Below w2.heap.size w2 w')
        (first
          | assumption
          | exact HC.out
          | exact kbr_step ((Own.nil w2.heap.size _).grown_below (Below.refl _ _) hg41 (Nat.le_refl _) (Below.size (And.right (by assumption)))) hcl (by assumption)
          | exact kbr_step ((Own.nil w2.heap.size _).grown_below (Below.refl _ _) hg42 (Nat.le_refl _) (Below.size (And.right (by assumption)))) hcl (by assumption)
          | fail)
        (first
          | (refine step_append_row (by rfl) _ _ (by rfl) w2.heap.size (.slice none 0 0) xa [] (pgs N.bs P N.E) (by rfl) (Own.nil _ _) (by rfl) (HRA.out.below (And.right (by assumption))) (by rw [HLA.out]; simp only [List.length_nil]; omega) (Below.size (And.right (by assumption))) ?_; intro v41 w41 ho41 hg41)
          | (refine step_append_row (by rfl) _ _ (by rfl) w2.heap.size (.slice none 0 0) xb [] (pgs N.bs (P + N.E) 16) (by rfl) (Own.nil _ _) (by rfl) (HRB.out.below (And.right (by assumption))) (by rw [HLB.out]; simp only [List.length_nil]; omega) (Below.size (And.right (by assumption))) ?_; intro v42 w42 ho42 hg42)
          | fail)
      all_goals
        try rw [List.nil_append] at ho41
        try rw [List.nil_append] at ho42
        have hk1 := ho41.kept (grown_below hg42)
        have hBe : Below w.heap.size w w42 := hB2.trans ((And.right (by assumption : _ ∧ Below w2.heap.size w2 w42)).mono hB2.size)
        have hs2 := hB2.size
        go_wp2
        go_ret3
        exact ⟨_, _, rfl, hk1.mono hs2, ho42.mono hs2, hBe⟩
  · have h0' : isP N b p = false := by simpa using h0
    have hr : readD N b p = (1, [], []) := by unfold readD; rw [h0']; rfl
    rw [hr]
    have hpg := Rpage_none w M N n h ok b p h0'
    clear hr h0 h0'
    go_enter Try.func25, Try.ntmps25
    go_wp2_with fail
    refine hpg.mono ?_
    rintro e w1 ⟨rfl, rfl⟩
    go_wp2
    go_ret3
    exact ⟨_, _, rfl, Own.nil _ _, Own.nil _ _, Below.refl _ _⟩
end Go.Proofs.Ythiehpofmlbehaa
