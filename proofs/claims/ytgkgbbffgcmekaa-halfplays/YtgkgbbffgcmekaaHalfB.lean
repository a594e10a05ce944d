/-
  The contracts of package half: Size, Read, program.
-/
import Derived.Test.YtgkgbbffgcmekaaHalfA
import Derived.Test.YtgkgbbffgcmekaaHoldL
namespace Go.Proofs.Ytgkgbbffgcmekaa
open Go.RowKit
set_option linter.unusedVariables false
set_option maxRecDepth 100000

/-- What is held of a geometry's block: its cells. -/
def HoldZ (w0 : World) (s : Nat) (a b c d e : Int) (w' : World) : Prop :=
  (w'.cell? ⟨s, 0, none⟩ = some (.int .i64 a) ∧ w'.cell? ⟨s, 1, none⟩ = some (.int .i64 b) ∧ w'.cell? ⟨s, 2, none⟩ = some (.int .i64 c) ∧ w'.cell? ⟨s, 3, none⟩ = some (.int .i64 d) ∧ w'.cell? ⟨s, 4, none⟩ = some (.int .i64 e)) ∧ Below w0.heap.size w0 w'
theorem holdZ_of {w0 : World} {s : Nat} {a b c d e : Int} {w : World} (h : Blk w s (gcells a b c d e) 23) (hb : Below w0.heap.size w0 w) : HoldZ w0 s a b c d e w := by
  have h0 := h.cell 0
  have h1 := h.cell 1
  have h2 := h.cell 2
  have h3 := h.cell 3
  have h4 := h.cell 4
  simp [gcells] at h0 h1 h2 h3 h4
  exact ⟨⟨h0, h1, h2, h3, h4⟩, hb⟩
theorem holdZ_step {w0 : World} {s : Nat} {a b c d e : Int} {w w' : World} (hb : Below w.heap.size w w') (h : HoldZ w0 s a b c d e w) : HoldZ w0 s a b c d e w' := ⟨⟨kl_cell hb h.1.1, kl_cell hb h.1.2.1, kl_cell hb h.1.2.2.1, kl_cell hb h.1.2.2.2.1, kl_cell hb h.1.2.2.2.2⟩, kl_step hb h.2⟩

set_option maxHeartbeats 1000000 in
theorem HSize_any (w : World) (A B : Nat) (c d e : Int) (hr : rightS A B c d e = true) :
    Calls Try.prog 28 #[.agg (gcells A B c d e)] w fun x w' => x = .returned (.int .i64 ((A / 2 * B : Nat) : Int)) ∧ Below w.heap.size w w' := by
  have hu := rightS_of hr
  have hA0 : 2 ≤ A ∧ A ≤ 16 := by omega
  have hB0 : 256 ≤ B ∧ B ≤ 4096 := by omega
  have hri := fun w => Right_any w A B c d e (wf_i64 (by omega) (by omega))
  rw [hr] at hri
  have hAB : A / 2 * B ≤ 8 * 4096 := Nat.mul_le_mul (by omega) hB0.2
  have hm : (((A / 2 : Nat) : Int) * (B : Int)) = ((A / 2 * B : Nat) : Int) := by simp
  obtain ⟨H, hH⟩ : ∃ H, A / 2 = H := ⟨_, rfl⟩
  have hse := fun w => sectors_any w A B c d e (by omega)
  rw [hH] at hAB hm ⊢
  simp only [hH] at hse
  have hmw : IntKind.i64.wrap ((H : Int) * (B : Int)) = ((H * B : Nat) : Int) := by rw [hm]; exact i64_in _ (by omega)
  generalize H * B = Z at *
  have HA := hide hA0
  clear hu hr hA0 hH
  unfold gcells at *
  go_enter Try.func28, Try.ntmps28
  go_wp2_with fail
  refine (hri _).mono ?_
  rintro x w1 ⟨rfl, rfl⟩
  have hb := Blk.new w #[.int .i64 A, .int .i64 B, .int .i64 c, .int .i64 d, .int .i64 e] 23
  have hB1 : Below w.heap.size w ((w.alloc (.cells #[.int .i64 A, .int .i64 B, .int .i64 c, .int .i64 d, .int .i64 e] 23)).alloc (.cells #[.int .i64 A, .int .i64 B, .int .i64 c, .int .i64 d, .int .i64 e] 23)) := ((Below.refl _ _).alloc (Nat.le_refl _) _).alloc (by simp) _
  have hb1 := hb.kept (World.grownBy_alloc _ (.cells #[.int .i64 A, .int .i64 B, .int .i64 c, .int .i64 d, .int .i64 e] 23) none) (by simp)
  generalize (w.alloc (.cells #[.int .i64 A, .int .i64 B, .int .i64 c, .int .i64 d, .int .i64 e] 23)).alloc (.cells #[.int .i64 A, .int .i64 B, .int .i64 c, .int .i64 d, .int .i64 e] 23) = W at *
  have hS0 := hide (holdZ_of hb1 hB1)
  clear hb hri
  go_wp2_with fail
  go_region_held3 (fun w' => (w'.cell? ⟨w.heap.size, 0, none⟩ = some (.int .i64 A) ∧ w'.cell? ⟨w.heap.size, 1, none⟩ = some (.int .i64 B) ∧ w'.cell? ⟨w.heap.size, 2, none⟩ = some (.int .i64 c) ∧ w'.cell? ⟨w.heap.size, 3, none⟩ = some (.int .i64 d) ∧ w'.cell? ⟨w.heap.size, 4, none⟩ = some (.int .i64 e)) ∧ Below w.heap.size w w')
    (first
      | assumption
      | exact holdZ_step (kl_drew _) hS0.out
      | exact holdZ_step hb9 (by assumption)
      | fail)
    (first
      | (go_at_call 37; refine (hse _).mono ?_; rintro x w9 ⟨rfl, hb9⟩)
      | fail)
  go_wp2
  go_ret
  exact ⟨ret_one (congrArg (Value.int .i64) (i64_in _ (by omega))), kl_step hb9 (kl_step (kl_drew _) hB1)⟩

/-- The chip's own geometry may be. -/
def RightG (N : NSt) : Prop := rightS N.A N.B N.c N.d N.e = true
theorem SameG.right {N M : NSt} (h : SameG N M) (hr : RightG N) : RightG M := by
  obtain ⟨h1, h2, h3, h4, h5⟩ := h
  unfold RightG at *
  rw [h1, h2, h3, h4, h5]; exact hr
theorem isHalf_of {h : Int} (hh : isHalf h = true) : h = 0 ∨ h = 1 := by simpa [isHalf] using hh

set_option maxHeartbeats 1000000 in
theorem HRead_any (base : Nat) (w : World) (L : Lay) (N : NSt) (n : Nat) (h : Chip 70 base w L N) (ok : N.Ok n) (hr : RightG N) (hf : Int) :
    Calls Try.prog 23 #[.pointer (some ⟨L.c, 0, none⟩), .int .i64 hf] w fun e w' =>
      ∃ v, e = .returned (.tuple #[v, .int .i64 (readH N hf).1]) ∧ Own w.heap.size w' v (readH N hf).2 ∧ Below w.heap.size w w' := by
  have hre := refusal_any w (some ⟨L.c, 0, none⟩) hf
  by_cases hh : isHalf hf = true
  · have e1 : readH N hf = readS N.bs (hf * (halfZ N : Int)) (halfZ N) := by unfold readH; rw [hh]; rfl
    rw [e1]
    rw [hh] at hre
    have hb := halfZ_big ok
    have hge := Geometry_any base w L N h
    have hsz := fun w => HSize_any w N.A N.B N.c N.d N.e hr
    rw [show N.A / 2 * N.B = halfZ N from rfl] at hsz
    generalize hZ : halfZ N = Z at *
    obtain ⟨P, hP, hPb⟩ : ∃ P : Nat, hf * (Z : Int) = (P : Int) ∧ P ≤ Z := by
      rcases isHalf_of hh with rfl | rfl
      · exact ⟨0, by simp, by omega⟩
      · exact ⟨Z, by simp, by omega⟩
    have hrd := fun w' (hc : Chip 70 base w' L N) => Read_any base w' L N n hc ok (P : Int) Z (wf_i64 (by omega) (by omega)) (wf_i64 (by omega) (by omega))
    have hmw : IntKind.i64.wrap (hf * (Z : Int)) = (P : Int) := by rw [hP]; exact i64_in _ (by omega)
    rw [hP]
    have hfr : 0 ≤ hf ∧ hf ≤ 1 := by rcases isHalf_of hh with rfl | rfl <;> omega
    have HCH := hide h
    clear h hr hh e1
    unfold gcells at hge hsz
    go_enter Try.func23, Try.ntmps23
    go_wp2_with fail
    refine hre.mono ?_
    rintro e w1 ⟨rfl, rfl⟩
    simp only [if_true, if_false, reduceCtorEq]
    go_wp2_with fail
    refine hge.mono ?_
    rintro e w2 ⟨rfl, hb2⟩
    go_wp2_with fail
    refine (hsz _).mono ?_
    rintro e w3 ⟨rfl, hb3⟩
    have hb13 := kl_step hb3 hb2
    have hC3 := HCH.out.only (l := []) (only_below hb13) (by simp) (by simp) (by simp)
    have hrd3 := hrd w3 hC3
    clear hre hge hsz hb2 hb3 hrd
    go_wp2_with fail
    refine hrd3.mono ?_
    rintro e w4 ⟨v, rfl, hown, hb4⟩
    go_wp2
    go_ret2
    exact ⟨_, rfl, hown.mono hb13.size, kl_step hb4 hb13⟩
  · have hh' : isHalf hf = false := by simpa using hh
    have e1 : readH N hf = (1, []) := by unfold readH; rw [hh']; rfl
    rw [e1]
    rw [hh'] at hre
    clear h hr hh hh' e1
    go_enter Try.func23, Try.ntmps23
    go_wp2_with fail
    refine hre.mono ?_
    rintro e w1 ⟨rfl, rfl⟩
    simp only [if_false, reduceCtorEq, Bool.false_eq_true]
    go_wp2
    go_ret2
    exact ⟨_, rfl, Own.nil _ _, Below.refl _ _⟩

theorem HReadNil_any (w : World) (hf : Int) : Calls Try.prog 23 #[.pointer none, .int .i64 hf] w fun e w' => e = .returned (.tuple #[.slice none 0 0, .int .i64 2]) ∧ w' = w := by
  have hre := refusal_any w none hf
  go_enter Try.func23, Try.ntmps23
  go_wp2_with fail
  refine hre.mono ?_
  rintro e w1 ⟨rfl, rfl⟩
  simp only [if_true]
  go_wp2
  go_ret2
  exact ⟨rfl, rfl⟩
end Go.Proofs.Ytgkgbbffgcmekaa
