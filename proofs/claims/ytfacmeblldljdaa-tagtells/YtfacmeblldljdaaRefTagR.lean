/-
  The document's own ReadTag: the same plain function.
-/
import Derived.Test.YtfacmeblldljdaaRefTag
namespace Go.Proofs.Ytfacmeblldljdaa
open Go.RowKit
set_option linter.unusedVariables false

theorem two_old (w : World) (cs : Array Value) (t : TypeId) (o : Obj) : Blk ((w.alloc (.cells cs t)).alloc o) w.heap.size cs t :=
  (Blk.new w cs t).below ((Below.refl _ _).alloc (Nat.le_refl _) _) (Blk.new w cs t).lt

set_option maxHeartbeats 1000000 in
theorem RRead_any (w : World) (v : Value) (xs : List Int) (h : Row w v xs) :
    Calls Try.prog 11 #[v] w (Told w (readS xs)) := by
  have hb0 : Below w.heap.size w (w.alloc (.cells (tcells 0 0 0) 25)) := (Below.refl _ _).alloc (Nat.le_refl _) _
  unfold tcells at hb0
  by_cases hl : xs.length = 16
  · have f0 := fun (w' : World) (hr : Row w' v xs) => refGet_any w' v xs 0 4 hr (by decide) (by decide)
    have f1 := fun (w' : World) (hr : Row w' v xs) => refGet_any w' v xs 4 4 hr (by decide) (by decide)
    have f2 := fun (w' : World) (hr : Row w' v xs) => refGet_any w' v xs 8 4 hr (by decide) (by decide)
    have f3 := fun (w' : World) (hr : Row w' v xs) => refGet_any w' v xs 12 4 hr (by decide) (by decide)
    have r0 := getS4_range h.bys 0
    have r1 := getS4_range h.bys 4
    have r2 := getS4_range h.bys 8
    have r3 := getS4_range h.bys 12
    obtain ⟨b, off, cap, rfl, hc1, hc2⟩ := h.sixteen hl
    have hcut := h.cut 12 (by omega)
    have hcap : (12 : Int) ≤ cap := by omega
    unfold Told readS
    rw [if_neg (by omega)]
    generalize (getS xs 0 4).1 = n0 at *
    generalize (getS xs 4 4).1 = n1 at *
    generalize (getS xs 8 4).1 = n2 at *
    generalize (getS xs 12 4).1 = n3 at *
    generalize (getS xs 0 4).2 = e0 at *
    generalize (getS xs 4 4).2 = e1 at *
    generalize (getS xs 8 4).2 = e2 at *
    generalize (getS xs 12 4).2 = e3 at *
    have H0 := hide f0
    have H1 := hide f1
    have H2 := hide f2
    have H3 := hide f3
    have HX := hide (h.below hb0)
    have HC := hide (hcut.below hb0)
    obtain ⟨sm, hsm⟩ : ∃ z, sumS (xs.take 12) = z := ⟨_, rfl⟩
    rw [hsm]
    have HS := hide hsm
    clear f0 f1 f2 f3 hcut h hsm
    unfold tcells
    by_cases hq : sm = n3
    · rw [if_neg (by simpa using hq)]
      subst hq
      by_cases h0 : n0 ≤ 2147483647
      · by_cases h1 : n1 ≤ 2147483647
        · rw [if_neg (by omega)]
          go_enter Try.func11, Try.ntmps11
          go_wp2_with fail
          refine (H0.out _ HX.out).mono ?_
          rintro e w2 ⟨rfl, rfl⟩
          go_wp2_with fail
          refine (H1.out _ HX.out).mono ?_
          rintro e w2 ⟨rfl, rfl⟩
          go_wp2_with fail
          refine (H2.out _ HX.out).mono ?_
          rintro e w2 ⟨rfl, rfl⟩
          go_wp2_with fail
          refine (H3.out _ HX.out).mono ?_
          rintro e w2 ⟨rfl, rfl⟩
          go_wp2_with fail
          refine (RSum_any _ _ _ HC.out).mono ?_
          rintro e w2 ⟨rfl, rfl⟩
          rw [HS.out]
          go_wp2_with fail
          refine (small_any _ n0).mono ?_
          rintro e w2 ⟨rfl, rfl⟩
          rw [inNum_yes r0.1 h0]
          go_wp2_with fail
          refine (small_any _ n1).mono ?_
          rintro e w2 ⟨rfl, rfl⟩
          rw [inNum_yes r1.1 h1]
          go_wp2
          refine bodyPost_ret (results_cell_tmp_row rfl _ _ w.heap.size 25 _ (0, 0) _ rfl (two_old w _ _ _) Try.underlying25 rfl (by kernel_rfl)) rfl ⟨rfl, ?_⟩
          exact ((Below.refl _ _).alloc (Nat.le_refl _) _).alloc (by simp) _
        · rw [if_pos (by omega)]
          go_enter Try.func11, Try.ntmps11
          go_wp2_with fail
          refine (H0.out _ HX.out).mono ?_
          rintro e w2 ⟨rfl, rfl⟩
          go_wp2_with fail
          refine (H1.out _ HX.out).mono ?_
          rintro e w2 ⟨rfl, rfl⟩
          go_wp2_with fail
          refine (H2.out _ HX.out).mono ?_
          rintro e w2 ⟨rfl, rfl⟩
          go_wp2_with fail
          refine (H3.out _ HX.out).mono ?_
          rintro e w2 ⟨rfl, rfl⟩
          go_wp2_with fail
          refine (RSum_any _ _ _ HC.out).mono ?_
          rintro e w2 ⟨rfl, rfl⟩
          rw [HS.out]
          go_wp2_with fail
          refine (small_any _ n0).mono ?_
          rintro e w2 ⟨rfl, rfl⟩
          rw [inNum_yes r0.1 h0]
          go_wp2_with fail
          refine (small_any _ n1).mono ?_
          rintro e w2 ⟨rfl, rfl⟩
          rw [inNum_big (v := n1) (by omega)]
          go_wp2
          refine bodyPost_ret (results_cell_tmp_row rfl _ _ w.heap.size 25 _ (0, 0) _ rfl (two_old w _ _ _) Try.underlying25 rfl (by kernel_rfl)) rfl ⟨rfl, ?_⟩
          exact ((Below.refl _ _).alloc (Nat.le_refl _) _).alloc (by simp) _
      · rw [if_pos (by omega)]
        go_enter Try.func11, Try.ntmps11
        go_wp2_with fail
        refine (H0.out _ HX.out).mono ?_
        rintro e w2 ⟨rfl, rfl⟩
        go_wp2_with fail
        refine (H1.out _ HX.out).mono ?_
        rintro e w2 ⟨rfl, rfl⟩
        go_wp2_with fail
        refine (H2.out _ HX.out).mono ?_
        rintro e w2 ⟨rfl, rfl⟩
        go_wp2_with fail
        refine (H3.out _ HX.out).mono ?_
        rintro e w2 ⟨rfl, rfl⟩
        go_wp2_with fail
        refine (RSum_any _ _ _ HC.out).mono ?_
        rintro e w2 ⟨rfl, rfl⟩
        rw [HS.out]
        go_wp2_with fail
        refine (small_any _ n0).mono ?_
        rintro e w2 ⟨rfl, rfl⟩
        rw [inNum_big (v := n0) (by omega)]
        go_wp2
        refine bodyPost_ret (results_cell_tmp_row rfl _ _ w.heap.size 25 _ (0, 0) _ rfl (two_old w _ _ _) Try.underlying25 rfl (by kernel_rfl)) rfl ⟨rfl, ?_⟩
        exact ((Below.refl _ _).alloc (Nat.le_refl _) _).alloc (by simp) _
    · rw [if_pos (by simpa using hq)]
      have hq2 : (n3 != sm) = true := by simpa using fun e => hq e.symm
      go_enter Try.func11, Try.ntmps11
      go_wp2_with fail
      refine (H0.out _ HX.out).mono ?_
      rintro e w2 ⟨rfl, rfl⟩
      go_wp2_with fail
      refine (H1.out _ HX.out).mono ?_
      rintro e w2 ⟨rfl, rfl⟩
      go_wp2_with fail
      refine (H2.out _ HX.out).mono ?_
      rintro e w2 ⟨rfl, rfl⟩
      go_wp2_with fail
      refine (H3.out _ HX.out).mono ?_
      rintro e w2 ⟨rfl, rfl⟩
      go_wp2_with fail
      refine (RSum_any _ _ _ HC.out).mono ?_
      rintro e w2 ⟨rfl, rfl⟩
      rw [HS.out]
      go_wp2
      refine bodyPost_ret (results_cell_tmp_row rfl _ _ w.heap.size 25 _ (0, 0) _ rfl (Blk.new w _ _) Try.underlying25 rfl (by kernel_rfl)) rfl ⟨rfl, ?_⟩
      exact (Below.refl _ _).alloc (Nat.le_refl _) _
  · unfold Told readS
    rw [if_pos (by omega)]
    obtain ⟨ao, cap, rfl⟩ := h.of_len
    generalize xs.length = n at *
    clear h
    unfold tcells
    have hln : ¬ (n : Int) = 16 := by omega
    go_enter Try.func11, Try.ntmps11
    go_wp2
    refine bodyPost_ret (results_cell_tmp_row rfl _ _ w.heap.size 25 _ (0, 0) _ rfl (Blk.new w _ _) Try.underlying25 rfl (by kernel_rfl)) rfl ⟨rfl, ?_⟩
    exact (Below.refl _ _).alloc (Nat.le_refl _) _
end Go.Proofs.Ytfacmeblldljdaa
