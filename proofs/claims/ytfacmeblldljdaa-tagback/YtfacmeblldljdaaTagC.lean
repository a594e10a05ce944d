/-
  The contracts of package tag: Read.
-/
import Derived.Test.YtfacmeblldljdaaTagA
namespace Go.Proofs.Ytfacmeblldljdaa
open Go.RowKit
set_option linter.unusedVariables false

/-- A tag, and an error. -/
def Told (w : World) (r : (Int × Int × Int) × Int) (e : Ending) (w' : World) : Prop := e = .returned (.tuple #[.agg (tcells r.1.1 r.1.2.1 r.1.2.2), .int .i64 r.2]) ∧ Below w.heap.size w w'

theorem Row.sixteen {w : World} {v : Value} {xs : List Int} (h : Row w v xs) (hl : xs.length = 16) : ∃ b off cap, v = .slice (some ⟨b, off, none⟩) 16 cap ∧ 16 ≤ cap ∧ cap ≤ maxLen := by
  obtain ⟨b, off, cap, hv, h1, h2, h3⟩ := h.at (by intro e; subst e; simp at hl)
  rw [hl] at hv h1
  refine ⟨b, off, cap, hv, h1, ?_⟩
  subst hv
  exact h.caps.2.2

theorem tag_new (w : World) (n : Nat) (x y z : Value) : Blk (((((w.alloc (.cells #[.int .i64 0, .int .i64 0, .int .u32 0] 25)).drewN n).setCell ⟨w.heap.size, 0, none⟩ x).setCell ⟨w.heap.size, 1, none⟩ y).setCell ⟨w.heap.size, 2, none⟩ z) w.heap.size #[x, y, z] 25 := by
  have h : Blk ((w.alloc (.cells #[.int .i64 0, .int .i64 0, .int .u32 0] 25)).drewN n) w.heap.size #[.int .i64 0, .int .i64 0, .int .u32 0] 25 := Blk.new w _ _
  exact ((h.set 0 x).set 1 y).set 2 z

set_option maxHeartbeats 1000000 in
theorem Read_any (w : World) (v : Value) (xs : List Int) (h : Row w v xs) :
    Calls Try.prog 10 #[v] w (Told w (readS xs)) := by
  have hb0 : Below w.heap.size w (w.alloc (.cells (tcells 0 0 0) 25)) := (Below.refl _ _).alloc (Nat.le_refl _) _
  unfold tcells at hb0
  by_cases hl : xs.length = 16
  · have F := fun (w' : World) (i : Nat) (hr : Row w' v xs) (hi : i ≤ 3) => field_any w' v xs i hr hi
    have r0 := getS4_range h.bys 0
    have r1 := getS4_range h.bys 4
    have r2 := getS4_range h.bys 8
    have r3 := getS4_range h.bys 12
    obtain ⟨b, off, cap, rfl, hc1, hc2⟩ := h.sixteen hl
    have hcut := h.cut 12 (by omega)
    have hcap : (12 : Int) ≤ cap := by omega
    unfold Told readS
    rw [if_neg (by omega)]
    have f3 : ∀ w', Row w' (.slice (some ⟨b, off, none⟩) 16 cap) xs → Calls Try.prog 22 #[.slice (some ⟨b, off, none⟩) 16 cap, .int .i64 3] w' _ := fun w' hr => F w' 3 hr (by omega)
    have f2 : ∀ w', Row w' (.slice (some ⟨b, off, none⟩) 16 cap) xs → Calls Try.prog 22 #[.slice (some ⟨b, off, none⟩) 16 cap, .int .i64 2] w' _ := fun w' hr => F w' 2 hr (by omega)
    have f1 : ∀ w', Row w' (.slice (some ⟨b, off, none⟩) 16 cap) xs → Calls Try.prog 22 #[.slice (some ⟨b, off, none⟩) 16 cap, .int .i64 1] w' _ := fun w' hr => F w' 1 hr (by omega)
    have f0 : ∀ w', Row w' (.slice (some ⟨b, off, none⟩) 16 cap) xs → Calls Try.prog 22 #[.slice (some ⟨b, off, none⟩) 16 cap, .int .i64 0] w' _ := fun w' hr => F w' 0 hr (by omega)
    rw [show (4 * ((3 : Nat) : Int)) = 12 from rfl] at f3
    rw [show (4 * ((2 : Nat) : Int)) = 8 from rfl] at f2
    rw [show (4 * ((1 : Nat) : Int)) = 4 from rfl] at f1
    rw [show (4 * ((0 : Nat) : Int)) = 0 from rfl] at f0
    generalize (getS xs 0 4).1 = n0 at *
    generalize (getS xs 4 4).1 = n1 at *
    generalize (getS xs 8 4).1 = n2 at *
    generalize (getS xs 12 4).1 = n3 at *
    have H0 := hide f0
    have H1 := hide f1
    have H2 := hide f2
    have H3 := hide f3
    have HX := hide (h.below hb0)
    have HC := hide (hcut.below hb0)
    obtain ⟨sm, hsm⟩ : ∃ z, sumS (xs.take 12) = z := ⟨_, rfl⟩
    rw [hsm]
    have HS := hide hsm
    clear F f0 f1 f2 f3 hcut h hsm
    unfold tcells
    by_cases hq : sm = n3
    · rw [if_neg (by simpa using hq)]
      subst hq
      by_cases h0 : n0 ≤ 2147483647
      · by_cases h1 : n1 ≤ 2147483647
        · rw [if_neg (by omega)]
          go_enter Try.func10, Try.ntmps10
          go_wp2_with fail
          go_quiet (first
            | (go_at_call 22; refine Calls.quiet_of_same (H3.out _ (by exact HX.out.below (below_drewN (Below.refl _ _) _))))
            | (go_at_call 21; refine Calls.quiet_of_same (Ok_any _ _ _ _ (by exact HC.out.below (below_drewN (Below.refl _ _) _)))))
          rw [HS.out]
          rw [beq_self_eq_true]
          go_wp2_with fail
          refine (H0.out _ (by exact HX.out.below (below_drewN (Below.refl _ _) _))).mono ?_
          rintro e w2 ⟨rfl, rfl⟩
          go_wp2_with fail
          refine (H1.out _ (by exact HX.out.below (below_drewN (Below.refl _ _) _))).mono ?_
          rintro e w2 ⟨rfl, rfl⟩
          go_wp2_with fail
          refine (H2.out _ (by exact HX.out.below (below_drewN (Below.refl _ _) _))).mono ?_
          rintro e w2 ⟨rfl, rfl⟩
          go_wp2
          refine bodyPost_ret (results_cell_tmp_row rfl _ _ w.heap.size 25 _ (0, 0) _ rfl (tag_new w nq _ _ _) Try.underlying25 rfl (by kernel_rfl)) rfl ⟨rfl, ?_⟩
          exact (((below_drewN hb0 nq).setCell (Nat.le_refl _) _).setCell (Nat.le_refl _) _).setCell (Nat.le_refl _) _
        · rw [if_pos (by omega)]
          go_enter Try.func10, Try.ntmps10
          go_wp2_with fail
          go_quiet (first
            | (go_at_call 22; refine Calls.quiet_of_same (H3.out _ (by exact HX.out.below (below_drewN (Below.refl _ _) _))))
            | (go_at_call 21; refine Calls.quiet_of_same (Ok_any _ _ _ _ (by exact HC.out.below (below_drewN (Below.refl _ _) _)))))
          rw [HS.out]
          rw [beq_self_eq_true]
          go_wp2_with fail
          refine (H0.out _ (by exact HX.out.below (below_drewN (Below.refl _ _) _))).mono ?_
          rintro e w2 ⟨rfl, rfl⟩
          go_wp2_with fail
          refine (H1.out _ (by exact HX.out.below (below_drewN (Below.refl _ _) _))).mono ?_
          rintro e w2 ⟨rfl, rfl⟩
          go_wp2
          refine bodyPost_ret (results_cell_tmp_row rfl _ _ w.heap.size 25 _ (0, 0) _ rfl (tag_new w nq _ _ _) Try.underlying25 rfl (by kernel_rfl)) rfl ⟨rfl, ?_⟩
          exact (((below_drewN hb0 nq).setCell (Nat.le_refl _) _).setCell (Nat.le_refl _) _).setCell (Nat.le_refl _) _
      · rw [if_pos (by omega)]
        go_enter Try.func10, Try.ntmps10
        go_wp2_with fail
        go_quiet (first
          | (go_at_call 22; refine Calls.quiet_of_same (H3.out _ (by exact HX.out.below (below_drewN (Below.refl _ _) _))))
          | (go_at_call 21; refine Calls.quiet_of_same (Ok_any _ _ _ _ (by exact HC.out.below (below_drewN (Below.refl _ _) _)))))
        rw [HS.out]
        rw [beq_self_eq_true]
        go_wp2_with fail
        refine (H0.out _ (by exact HX.out.below (below_drewN (Below.refl _ _) _))).mono ?_
        rintro e w2 ⟨rfl, rfl⟩
        go_wp2_with fail
        refine (H1.out _ (by exact HX.out.below (below_drewN (Below.refl _ _) _))).mono ?_
        rintro e w2 ⟨rfl, rfl⟩
        go_wp2
        refine bodyPost_ret (results_cell_tmp_row rfl _ _ w.heap.size 25 _ (0, 0) _ rfl (tag_new w nq _ _ _) Try.underlying25 rfl (by kernel_rfl)) rfl ⟨rfl, ?_⟩
        exact (((below_drewN hb0 nq).setCell (Nat.le_refl _) _).setCell (Nat.le_refl _) _).setCell (Nat.le_refl _) _
    · rw [if_pos (by simpa using hq)]
      go_enter Try.func10, Try.ntmps10
      go_wp2_with fail
      go_quiet (first
        | (go_at_call 22; refine Calls.quiet_of_same (H3.out _ (by exact HX.out.below (below_drewN (Below.refl _ _) _))))
        | (go_at_call 21; refine Calls.quiet_of_same (Ok_any _ _ _ _ (by exact HC.out.below (below_drewN (Below.refl _ _) _)))))
      rw [HS.out]
      rw [beq_eq_false_iff_ne.2 hq]
      go_wp2
      refine bodyPost_ret (results_cell_tmp_row rfl _ _ w.heap.size 25 _ (0, 0) _ rfl (tag_new w nq _ _ _) Try.underlying25 rfl (by kernel_rfl)) rfl ⟨rfl, ?_⟩
      exact (((below_drewN hb0 nq).setCell (Nat.le_refl _) _).setCell (Nat.le_refl _) _).setCell (Nat.le_refl _) _
  · unfold Told readS
    rw [if_pos (by omega)]
    obtain ⟨ao, cap, rfl⟩ := h.of_len
    generalize xs.length = n at *
    clear h
    unfold tcells
    have hln : ¬ (n : Int) = 16 := by omega
    go_enter Try.func10, Try.ntmps10
    go_wp2
    refine bodyPost_ret (results_cell_tmp_row rfl _ _ w.heap.size 25 _ (0, 0) _ rfl (Blk.new w _ _) Try.underlying25 rfl (by kernel_rfl)) rfl ⟨rfl, ?_⟩
    exact (Below.refl _ _).alloc (Nat.le_refl _) _
end Go.Proofs.Ytfacmeblldljdaa
