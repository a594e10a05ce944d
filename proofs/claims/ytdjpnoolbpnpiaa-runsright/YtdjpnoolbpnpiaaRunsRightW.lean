/-
  The walk of garretlaw09.RunsRight.
-/
import Derived.Test.YtdjpnoolbpnpiaaAwake09
import Derived.Deep.CutBlock
import Derived.Deep.DeepCutAuto
namespace Go.Proofs.Ytdjpnoolbpnpiaa
open Go.RowKit
set_option linter.unusedVariables false
set_option maxRecDepth 100000

/-- The three runs, and what becomes of them. -/
def base3 : List Rn := [⟨1, 5, 2⟩, ⟨3, 9, 1⟩, ⟨6, 10, 4⟩]
def spoilS (t : Nat) : List Rn := match t with
  | 0 => [⟨-1, 5, 2⟩, ⟨3, 9, 1⟩, ⟨6, 10, 4⟩]
  | 1 => [⟨1, 5, 0⟩, ⟨3, 9, 1⟩, ⟨6, 10, 4⟩]
  | 2 => [⟨1, -1, 2⟩, ⟨3, 9, 1⟩, ⟨6, 10, 4⟩]
  | 3 => [⟨1, 5, 2⟩, ⟨2, 9, 1⟩, ⟨6, 10, 4⟩]
  | 4 => [⟨1, 5, 2⟩, ⟨3, 7, 1⟩, ⟨6, 10, 4⟩]
  | 5 => [⟨1, 5, 2⟩, ⟨3, 9, 1⟩, ⟨6, 10, 59⟩]
  | 6 => [⟨3, 9, 1⟩, ⟨1, 5, 2⟩, ⟨6, 10, 4⟩]
  | 7 => [⟨1, 5, 2⟩, ⟨3, 9, 1⟩, ⟨6, 2147483645, 4⟩]
  | _ => [⟨1, 5, 2⟩, ⟨3, 9, 1⟩, ⟨64, 10, 4⟩]
theorem nine {P : Nat → Prop} (h0 : P 0) (h1 : P 1) (h2 : P 2) (h3 : P 3) (h4 : P 4) (h5 : P 5) (h6 : P 6) (h7 : P 7) (h8 : P 8) : ∀ t, t < 9 → P t := by
  intro t ht
  match t, ht with
  | 0, _ => exact h0
  | 1, _ => exact h1
  | 2, _ => exact h2
  | 3, _ => exact h3
  | 4, _ => exact h4
  | 5, _ => exact h5
  | 6, _ => exact h6
  | 7, _ => exact h7
  | 8, _ => exact h8
theorem spoil_right : ∀ t, t < 9 → rightS (spoilS t) = false := nine (by kernel_rfl) (by kernel_rfl) (by kernel_rfl) (by kernel_rfl) (by kernel_rfl) (by kernel_rfl) (by kernel_rfl) (by kernel_rfl) (by kernel_rfl)
theorem base3_right : rightS base3 = true := by kernel_rfl
theorem spoil_get : ∀ t, t < 9 → ((getS (spoilS t) 60).isSome == (t == 5) || t == 8) = true := nine (by kernel_rfl) (by kernel_rfl) (by kernel_rfl) (by kernel_rfl) (by kernel_rfl) (by kernel_rfl) (by kernel_rfl) (by kernel_rfl) (by kernel_rfl)
theorem spoil_get2 : ∀ t, t < 9 → (getS (spoilS t) 60).isSome = decide (t = 5) := nine (by kernel_rfl) (by kernel_rfl) (by kernel_rfl) (by kernel_rfl) (by kernel_rfl) (by kernel_rfl) (by kernel_rfl) (by kernel_rfl) (by kernel_rfl)
theorem IRow.lenRun9 {w : World} {v : Value} {xs : List Int} (h : IRow .i64 w v xs) (w' : World) (ty : TypeId) : (Builtin.len_ #[24] ty #[v]).run Try.prog w' = .ok (.int .i64 xs.length) w' := by
  obtain ⟨ao, cap, rfl⟩ := h.of_len
  simp [Builtin.len_, run_underlying Try.underlying24, goInt]
theorem mild_lit (f a n : Int) (h : -1000000 ≤ f ∧ f ≤ 1000000 ∧ -5000000000 ≤ a ∧ a ≤ 5000000000 ∧ -1000000 ≤ n ∧ n ≤ 1000000) : Rn.Mild ⟨f, a, n⟩ := ⟨⟨h.1, h.2.1⟩, ⟨h.2.2.1, h.2.2.2.1⟩, ⟨h.2.2.2.2.1, h.2.2.2.2.2⟩⟩
theorem spoil_mild : ∀ t, t < 9 → ∀ r ∈ spoilS t, r.Mild := by
  refine nine ?_ ?_ ?_ ?_ ?_ ?_ ?_ ?_ ?_ <;>
  · intro r hr
    simp [spoilS] at hr
    rcases hr with rfl | rfl | rfl <;> exact mild_lit _ _ _ (by omega)

theorem swap_own {w : World} {c : Nat} (h : ROwn c w (.slice (some ⟨c, 0, none⟩) 3 3) base3) :
    ROwn c ((((((w.setCell ⟨c, 0, none⟩ (.int .i64 3)).setCell ⟨c, 1, none⟩ (.int .i64 9)).setCell ⟨c, 2, none⟩ (.int .i64 1)).setCell ⟨c, 3, none⟩ (.int .i64 1)).setCell ⟨c, 4, none⟩ (.int .i64 5)).setCell ⟨c, 5, none⟩ (.int .i64 2)) (.slice (some ⟨c, 0, none⟩) 3 3) (spoilS 6) := by
  have k0 : ROwn c (w.setCell ⟨c, 0, none⟩ (.int .i64 3)) (.slice (some ⟨c, 0, none⟩) 3 3) [⟨3, 5, 2⟩, ⟨3, 9, 1⟩, ⟨6, 10, 4⟩] := (h).stored rfl 0 0 ⟨1, 5, 2⟩ ⟨3, 5, 2⟩ (.int .i64 3) rfl (by omega) rfl (mild_lit _ _ _ (by omega)).wf
  have k1 : ROwn c ((w.setCell ⟨c, 0, none⟩ (.int .i64 3)).setCell ⟨c, 1, none⟩ (.int .i64 9)) (.slice (some ⟨c, 0, none⟩) 3 3) [⟨3, 9, 2⟩, ⟨3, 9, 1⟩, ⟨6, 10, 4⟩] := (k0).stored rfl 0 1 ⟨3, 5, 2⟩ ⟨3, 9, 2⟩ (.int .i64 9) rfl (by omega) rfl (mild_lit _ _ _ (by omega)).wf
  have k2 : ROwn c (((w.setCell ⟨c, 0, none⟩ (.int .i64 3)).setCell ⟨c, 1, none⟩ (.int .i64 9)).setCell ⟨c, 2, none⟩ (.int .i64 1)) (.slice (some ⟨c, 0, none⟩) 3 3) [⟨3, 9, 1⟩, ⟨3, 9, 1⟩, ⟨6, 10, 4⟩] := (k1).stored rfl 0 2 ⟨3, 9, 2⟩ ⟨3, 9, 1⟩ (.int .i64 1) rfl (by omega) rfl (mild_lit _ _ _ (by omega)).wf
  have k3 : ROwn c ((((w.setCell ⟨c, 0, none⟩ (.int .i64 3)).setCell ⟨c, 1, none⟩ (.int .i64 9)).setCell ⟨c, 2, none⟩ (.int .i64 1)).setCell ⟨c, 3, none⟩ (.int .i64 1)) (.slice (some ⟨c, 0, none⟩) 3 3) [⟨3, 9, 1⟩, ⟨1, 9, 1⟩, ⟨6, 10, 4⟩] := (k2).stored rfl 1 0 ⟨3, 9, 1⟩ ⟨1, 9, 1⟩ (.int .i64 1) rfl (by omega) rfl (mild_lit _ _ _ (by omega)).wf
  have k4 : ROwn c (((((w.setCell ⟨c, 0, none⟩ (.int .i64 3)).setCell ⟨c, 1, none⟩ (.int .i64 9)).setCell ⟨c, 2, none⟩ (.int .i64 1)).setCell ⟨c, 3, none⟩ (.int .i64 1)).setCell ⟨c, 4, none⟩ (.int .i64 5)) (.slice (some ⟨c, 0, none⟩) 3 3) [⟨3, 9, 1⟩, ⟨1, 5, 1⟩, ⟨6, 10, 4⟩] := (k3).stored rfl 1 1 ⟨1, 9, 1⟩ ⟨1, 5, 1⟩ (.int .i64 5) rfl (by omega) rfl (mild_lit _ _ _ (by omega)).wf
  have k5 : ROwn c ((((((w.setCell ⟨c, 0, none⟩ (.int .i64 3)).setCell ⟨c, 1, none⟩ (.int .i64 9)).setCell ⟨c, 2, none⟩ (.int .i64 1)).setCell ⟨c, 3, none⟩ (.int .i64 1)).setCell ⟨c, 4, none⟩ (.int .i64 5)).setCell ⟨c, 5, none⟩ (.int .i64 2)) (.slice (some ⟨c, 0, none⟩) 3 3) [⟨3, 9, 1⟩, ⟨1, 5, 2⟩, ⟨6, 10, 4⟩] := (k4).stored rfl 1 2 ⟨1, 5, 1⟩ ⟨1, 5, 2⟩ (.int .i64 2) rfl (by omega) rfl (mild_lit _ _ _ (by omega)).wf
  exact k5
theorem ROwn.drew {base : Nat} {w : World} {v : Value} {l : List Rn} (h : ROwn base w v l) : ROwn base w.drew v l := h

set_option maxHeartbeats 4000000 in
theorem RunsRight_walk (n : Int) (w : World) (w0 : (Lit.int .i64 n).wf = true) :
    Calls Try.prog 5 #[.int .i64 n] w fun e w' => e = .returned (.bool true) ∧ Below w.heap.size w w' := by
  obtain ⟨t, ht, hT⟩ : ∃ t : Nat, t < 9 ∧ (IntKind.u64.wrap n).tmod 9 = (t : Int) := by
    refine ⟨((n % 18446744073709551616) % 9).toNat, by omega, ?_⟩
    rw [IntKind.wrap_u64, Int.tmod_eq_emod_of_nonneg (Int.emod_nonneg _ (by omega))]
    omega
  have HT := hide ht
  clear w0
  go_enter Try.func5, Try.ntmps5
  have hbase : ROwn w.heap.size (w.alloc (.cells #[.int .i64 1, .int .i64 5, .int .i64 2, .int .i64 3, .int .i64 9, .int .i64 1, .int .i64 6, .int .i64 10, .int .i64 4] 39)) (.slice (some ⟨w.heap.size, 0, none⟩) 3 3) base3 := by
    refine ⟨World.ownsRow_lit w _ 3 (Nat.le_refl _) (by unfold maxLen; omega) rfl, fun r hr => ?_⟩
    simp [base3] at hr
    rcases hr with rfl | rfl | rfl <;> exact (mild_lit _ _ _ (by omega)).wf
  have hA := kl_alloc w (.cells #[.int .i64 1, .int .i64 5, .int .i64 2, .int .i64 3, .int .i64 9, .int .i64 1, .int .i64 6, .int .i64 10, .int .i64 4] 39)
  have HO1 := hide hbase
  clear hbase
  go_wp2_with fail
  refine (awake9_any _).mono ?_
  rintro e w2 ⟨rfl, hb2⟩
  have hB2 := kl_step hb2 hA
  have HO2 := hide (HO1.out.kept hb2)
  clear hb2 hA HO1
  go_wp2_with fail
  refine (Right_any _ _ _ HO2.out.row).mono ?_
  rintro e w3 ⟨rfl, hb3⟩
  rw [base3_right]
  have hB3 := kl_step hb3 hB2
  have HO3 := hide (HO2.out.kept hb3)
  clear hb3 hB2 HO2
  go_wp2_with fail
  refine (Right_any _ _ [] (RRow.nil _)).mono ?_
  rintro e w4 ⟨rfl, hb4⟩
  rw [show rightS [] = true from rfl]
  have hB4 := kl_step hb4 hB3
  have HO4 := hide (HO3.out.kept hb4)
  clear hb4 hB3 HO3
  obtain ⟨c, hc⟩ : ∃ c, w.heap.size = c := ⟨_, rfl⟩
  rw [hc] at HO4 hB4 ⊢
  have hcs : c ≤ w4.heap.size := by have := hB4.size; omega
  have HC := hide hc
  clear hc
  go_upto_block 0 with fail
  go_cut [23] (fun s23 wx => s23 = .int .u64 t ∧ ROwn c wx (.slice (some ⟨c, 0, none⟩) 3 3) (spoilS t) ∧ Below c w wx)
  case first =>
    have hts : t = 0 ∨ t = 1 ∨ t = 2 ∨ t = 3 ∨ t = 4 ∨ t = 5 ∨ t = 6 ∨ t = 7 ∨ t = 8 := by omega
    have fz := fun j => HO4.out.frozenAt rfl j
    rcases hts with rfl | rfl | rfl | rfl | rfl | rfl | rfl | rfl | rfl
    · have f1 := fz 0
      have g1 : w4.cell? ⟨c, 0, none⟩ = some (.int .i64 1) := HO4.out.cellAt rfl 0 ⟨1, 5, 2⟩ rfl 0 (by omega)
      have H1 := hide (show ROwn c (w4.setCell ⟨c, 0, none⟩ (.int .i64 (-1))) (.slice (some ⟨c, 0, none⟩) 3 3) (spoilS 0) from HO4.out.stored rfl 0 0 ⟨1, 5, 2⟩ ⟨-1, 5, 2⟩ (.int .i64 (-1)) rfl (by omega) rfl (mild_lit _ _ _ (by omega)).wf)
      have hB5 : Below c w (w4.setCell ⟨c, 0, none⟩ (.int .i64 (-1))) := hB4.setCell (Nat.le_refl _) _
      clear fz
      go_wp2_with fail
      go_meet
      exact ⟨rfl, H1.out, hB5⟩
    · have f1 := fz 2
      have g1 : w4.cell? ⟨c, 2, none⟩ = some (.int .i64 2) := HO4.out.cellAt rfl 0 ⟨1, 5, 2⟩ rfl 2 (by omega)
      have H1 := hide (show ROwn c (w4.setCell ⟨c, 2, none⟩ (.int .i64 (0))) (.slice (some ⟨c, 0, none⟩) 3 3) (spoilS 1) from HO4.out.stored rfl 0 2 ⟨1, 5, 2⟩ ⟨1, 5, 0⟩ (.int .i64 (0)) rfl (by omega) rfl (mild_lit _ _ _ (by omega)).wf)
      have hB5 : Below c w (w4.setCell ⟨c, 2, none⟩ (.int .i64 (0))) := hB4.setCell (Nat.le_refl _) _
      clear fz
      go_wp2_with fail
      go_meet
      exact ⟨rfl, H1.out, hB5⟩
    · have f1 := fz 1
      have g1 : w4.cell? ⟨c, 1, none⟩ = some (.int .i64 5) := HO4.out.cellAt rfl 0 ⟨1, 5, 2⟩ rfl 1 (by omega)
      have H1 := hide (show ROwn c (w4.setCell ⟨c, 1, none⟩ (.int .i64 (-1))) (.slice (some ⟨c, 0, none⟩) 3 3) (spoilS 2) from HO4.out.stored rfl 0 1 ⟨1, 5, 2⟩ ⟨1, -1, 2⟩ (.int .i64 (-1)) rfl (by omega) rfl (mild_lit _ _ _ (by omega)).wf)
      have hB5 : Below c w (w4.setCell ⟨c, 1, none⟩ (.int .i64 (-1))) := hB4.setCell (Nat.le_refl _) _
      clear fz
      go_wp2_with fail
      go_meet
      exact ⟨rfl, H1.out, hB5⟩
    · have f1 := fz 3
      have g1 : w4.cell? ⟨c, 3, none⟩ = some (.int .i64 3) := HO4.out.cellAt rfl 1 ⟨3, 9, 1⟩ rfl 0 (by omega)
      have H1 := hide (show ROwn c (w4.setCell ⟨c, 3, none⟩ (.int .i64 (2))) (.slice (some ⟨c, 0, none⟩) 3 3) (spoilS 3) from HO4.out.stored rfl 1 0 ⟨3, 9, 1⟩ ⟨2, 9, 1⟩ (.int .i64 (2)) rfl (by omega) rfl (mild_lit _ _ _ (by omega)).wf)
      have hB5 : Below c w (w4.setCell ⟨c, 3, none⟩ (.int .i64 (2))) := hB4.setCell (Nat.le_refl _) _
      clear fz
      go_wp2_with fail
      go_meet
      exact ⟨rfl, H1.out, hB5⟩
    · have f1 := fz 4
      have g1 : w4.cell? ⟨c, 4, none⟩ = some (.int .i64 9) := HO4.out.cellAt rfl 1 ⟨3, 9, 1⟩ rfl 1 (by omega)
      have H1 := hide (show ROwn c (w4.setCell ⟨c, 4, none⟩ (.int .i64 (7))) (.slice (some ⟨c, 0, none⟩) 3 3) (spoilS 4) from HO4.out.stored rfl 1 1 ⟨3, 9, 1⟩ ⟨3, 7, 1⟩ (.int .i64 (7)) rfl (by omega) rfl (mild_lit _ _ _ (by omega)).wf)
      have hB5 : Below c w (w4.setCell ⟨c, 4, none⟩ (.int .i64 (7))) := hB4.setCell (Nat.le_refl _) _
      clear fz
      go_wp2_with fail
      go_meet
      exact ⟨rfl, H1.out, hB5⟩
    · have f1 := fz 8
      have g1 : w4.cell? ⟨c, 8, none⟩ = some (.int .i64 4) := HO4.out.cellAt rfl 2 ⟨6, 10, 4⟩ rfl 2 (by omega)
      have H1 := hide (show ROwn c (w4.setCell ⟨c, 8, none⟩ (.int .i64 (59))) (.slice (some ⟨c, 0, none⟩) 3 3) (spoilS 5) from HO4.out.stored rfl 2 2 ⟨6, 10, 4⟩ ⟨6, 10, 59⟩ (.int .i64 (59)) rfl (by omega) rfl (mild_lit _ _ _ (by omega)).wf)
      have hB5 : Below c w (w4.setCell ⟨c, 8, none⟩ (.int .i64 (59))) := hB4.setCell (Nat.le_refl _) _
      clear fz
      go_wp2_with fail
      go_meet
      exact ⟨rfl, H1.out, hB5⟩
    · have f0 := fz 0
      have f1 := fz 1
      have f2 := fz 2
      have f3 := fz 3
      have f4 := fz 4
      have f5 := fz 5
      have g0 : w4.cell? ⟨c, 0, none⟩ = some (.int .i64 1) := HO4.out.cellAt rfl 0 ⟨1, 5, 2⟩ rfl 0 (by omega)
      have g1 : w4.cell? ⟨c, 1, none⟩ = some (.int .i64 5) := HO4.out.cellAt rfl 0 ⟨1, 5, 2⟩ rfl 1 (by omega)
      have g2 : w4.cell? ⟨c, 2, none⟩ = some (.int .i64 2) := HO4.out.cellAt rfl 0 ⟨1, 5, 2⟩ rfl 2 (by omega)
      have g3 : w4.cell? ⟨c, 3, none⟩ = some (.int .i64 3) := HO4.out.cellAt rfl 1 ⟨3, 9, 1⟩ rfl 0 (by omega)
      have g4 : w4.cell? ⟨c, 4, none⟩ = some (.int .i64 9) := HO4.out.cellAt rfl 1 ⟨3, 9, 1⟩ rfl 1 (by omega)
      have g5 : w4.cell? ⟨c, 5, none⟩ = some (.int .i64 1) := HO4.out.cellAt rfl 1 ⟨3, 9, 1⟩ rfl 2 (by omega)
      have H1 := hide (swap_own HO4.out).drew
      have hB5 : Below c w ((((((w4.setCell ⟨c, 0, none⟩ (.int .i64 3)).setCell ⟨c, 1, none⟩ (.int .i64 9)).setCell ⟨c, 2, none⟩ (.int .i64 1)).setCell ⟨c, 3, none⟩ (.int .i64 1)).setCell ⟨c, 4, none⟩ (.int .i64 5)).setCell ⟨c, 5, none⟩ (.int .i64 2)).drew := ((((((hB4.setCell (Nat.le_refl _) _).setCell (Nat.le_refl _) _).setCell (Nat.le_refl _) _).setCell (Nat.le_refl _) _).setCell (Nat.le_refl _) _).setCell (Nat.le_refl _) _).drew
      clear fz
      go_wp2_with fail
      go_region
      all_goals
        go_wp2_with fail
        go_meet
        exact ⟨rfl, H1.out, hB5⟩
    · have f1 := fz 7
      have g1 : w4.cell? ⟨c, 7, none⟩ = some (.int .i64 10) := HO4.out.cellAt rfl 2 ⟨6, 10, 4⟩ rfl 1 (by omega)
      have H1 := hide (show ROwn c (w4.setCell ⟨c, 7, none⟩ (.int .i64 (2147483645))) (.slice (some ⟨c, 0, none⟩) 3 3) (spoilS 7) from HO4.out.stored rfl 2 1 ⟨6, 10, 4⟩ ⟨6, 2147483645, 4⟩ (.int .i64 (2147483645)) rfl (by omega) rfl (mild_lit _ _ _ (by omega)).wf)
      have hB5 : Below c w (w4.setCell ⟨c, 7, none⟩ (.int .i64 (2147483645))) := hB4.setCell (Nat.le_refl _) _
      clear fz
      go_wp2_with fail
      go_meet
      exact ⟨rfl, H1.out, hB5⟩
    · have f1 := fz 6
      have g1 : w4.cell? ⟨c, 6, none⟩ = some (.int .i64 6) := HO4.out.cellAt rfl 2 ⟨6, 10, 4⟩ rfl 0 (by omega)
      have H1 := hide (show ROwn c (w4.setCell ⟨c, 6, none⟩ (.int .i64 (64))) (.slice (some ⟨c, 0, none⟩) 3 3) (spoilS 8) from HO4.out.stored rfl 2 0 ⟨6, 10, 4⟩ ⟨64, 10, 4⟩ (.int .i64 (64)) rfl (by omega) rfl (mild_lit _ _ _ (by omega)).wf)
      have hB5 : Below c w (w4.setCell ⟨c, 6, none⟩ (.int .i64 (64))) := hB4.setCell (Nat.le_refl _) _
      clear fz
      go_wp2_with fail
      go_meet
      exact ⟨rfl, H1.out, hB5⟩
  case rest =>
    obtain ⟨rfl, hown, hb5⟩ := hcut
    have hsr := spoil_right t HT.out
    have hmi := spoil_mild t HT.out
    have hsg := spoil_get2 t HT.out
    obtain ⟨b5, hb5e⟩ : ∃ b : Bool, decide (t = 5) = b := ⟨_, rfl⟩
    have hbe : ((t : Int) == 5) = b5 := by
      rw [← hb5e]
      by_cases e : t = 5
      · subst e; rfl
      · rw [decide_eq_false e]; simp; omega
    rw [hb5e] at hsg
    have hs1 : setS (spoilS t) 0 0 = [] := by unfold setS; rw [hsr]; rfl
    have hs2 : cutS (spoilS t) 9 = [] := by unfold cutS; rw [hsr]; rfl
    generalize spoilS t = L at *
    have HR := hide hown.row
    have HB := hide hb5
    have HSR := hide hsr
    have HS1 := hide hs1
    have HS2 := hide hs2
    have HMI := hide hmi
    have HSG := hide hsg
    have hcw := hb5.size
    rw [HC.out] at hcw
    clear hown hb5 hsr hs1 hs2 hmi hsg HO4 hB4 hcs hb5e
    go_wp2_with fail
    refine (Get_any wc _ L 60 HR.out HMI.out (by omega)).mono ?_
    rintro e w5 ⟨rfl, hb5⟩
    rw [HSG.out]
    generalize (getS L 60).getD 0 = gg at *
    have hB5 : Below c w w5 := HB.out.trans (hb5.mono hcw)
    have HR5 := hide (HR.out.below hb5)
    have hc5 : c ≤ w5.heap.size := Nat.le_trans hcw hb5.size
    clear hb5
    go_wp2_with fail
    refine (Right_any w5 _ L HR5.out).mono ?_
    rintro e w6 ⟨rfl, hb6⟩
    rw [HSR.out]
    have hB6 : Below c w w6 := hB5.trans (hb6.mono hc5)
    have HR6 := hide (HR5.out.below hb6)
    have hc6 : c ≤ w6.heap.size := Nat.le_trans hc5 hb6.size
    clear hb6 hB5
    go_wp2_with fail
    refine (Set_any w6 _ L 0 0 HR6.out (wf_small (by omega)) (wf_small (by omega))).mono ?_
    rintro e w7 ⟨u7, rfl, ho7, hb7⟩
    rw [HS1.out] at ho7
    have hl7 : ∀ (w' : World) (ty : TypeId), (Builtin.len_ #[23] ty #[u7]).run Try.prog w' = .ok (.int .i64 0) w' := fun w' ty => ho7.row.lenRun w' ty
    have hB7 : Below c w w7 := hB6.trans (hb7.mono hc6)
    have HR7 := hide (HR6.out.below hb7)
    have hc7 : c ≤ w7.heap.size := Nat.le_trans hc6 hb7.size
    clear hb7 hB6 ho7
    go_wp2_with fail
    refine (Cut9_any w7 _ L 9 HR7.out).mono ?_
    rintro e w8 ⟨u8, rfl, ho8, hb8⟩
    rw [HS2.out] at ho8
    have hl8 : ∀ (w' : World) (ty : TypeId), (Builtin.len_ #[23] ty #[u8]).run Try.prog w' = .ok (.int .i64 0) w' := fun w' ty => ho8.row.lenRun w' ty
    have hB8 : Below c w w8 := hB7.trans (hb8.mono hc7)
    have HR8 := hide (HR7.out.below hb8)
    have hc8 : c ≤ w8.heap.size := Nat.le_trans hc7 hb8.size
    clear hb8 hB7 ho8
    go_wp2_with fail
    refine (Count_any w8 _ L HR8.out).mono ?_
    rintro e w9 ⟨rfl, hb9⟩
    rw [HSR.out]
    simp only [Bool.false_eq_true, if_false]
    have hB9 : Below c w w9 := hB8.trans (hb9.mono hc8)
    have HR9 := hide (HR8.out.below hb9)
    have hc9 : c ≤ w9.heap.size := Nat.le_trans hc8 hb9.size
    clear hb9 hB8
    go_wp2_with fail
    refine (Pages_any w9 _ L HR9.out).mono ?_
    rintro e w10 ⟨u10, rfl, ho10, hb10⟩
    rw [HSR.out] at ho10
    simp only [Bool.false_eq_true, if_false] at ho10
    have hl10 : ∀ (w' : World) (ty : TypeId), (Builtin.len_ #[24] ty #[u10]).run Try.prog w' = .ok (.int .i64 0) w' := fun w' ty => ho10.row.lenRun9 w' ty
    have hB10 : Below c w w10 := hB9.trans (hb10.mono hc9)
    clear hb10 hB9 ho10
    go_wp2
    go_ret
    exact ⟨rfl, by rw [HC.out]; exact hB10⟩
end Go.Proofs.Ytdjpnoolbpnpiaa
