/-
  The document's own half: HalfSize, ReadHalf.
-/
import Derived.Test.YtgkgbbffgcmekaaHalfP
import Derived.Test.YtgkgbbffgcmekaaRefErase
import Derived.Test.YtgkgbbffgcmekaaHoldL
namespace Go.Proofs.Ytgkgbbffgcmekaa
open Go.RowKit
set_option linter.unusedVariables false
set_option maxRecDepth 100000

set_option maxHeartbeats 400000 in
theorem RHalfSize_any (w : World) (A B : Nat) (c d e : Int) (hr : rightS A B c d e = true) :
    Calls Try.prog 29 #[.agg (gcells A B c d e)] w fun x w' => x = .returned (.int .i64 ((A / 2 * B : Nat) : Int)) ∧ Below w.heap.size w w' := by
  have hu := rightS_of hr
  have hA0 : 2 ≤ A ∧ A ≤ 16 := by omega
  have hB0 : 256 ≤ B ∧ B ≤ 4096 := by omega
  have hri := fun w => RRight_any w A B c d e (wf_i64 (by omega) (by omega))
  rw [hr] at hri
  have hAB : A / 2 * B ≤ 8 * 4096 := Nat.mul_le_mul (by omega) hB0.2
  have hm : (((A / 2 : Nat) : Int) * (B : Int)) = ((A / 2 * B : Nat) : Int) := by simp
  obtain ⟨H, hH⟩ : ∃ H, A / 2 = H := ⟨_, rfl⟩
  have hq : (A : Int) / 2 = (H : Int) := by omega
  have hq3 : IntKind.i64.wrap (H : Int) = (H : Int) := i64_in _ (by omega)
  rw [hH] at hAB hm ⊢
  generalize H * B = Z at *
  have HA := hide hA0
  clear hu hr hA0 hH
  unfold gcells at *
  go_enter Try.func29, Try.ntmps29
  go_wp2_with fail
  refine (hri _).mono ?_
  rintro x w1 ⟨rfl, rfl⟩
  have hb := Blk.new w #[.int .i64 A, .int .i64 B, .int .i64 c, .int .i64 d, .int .i64 e] 23
  have hB1 : Below w.heap.size w ((w.alloc (.cells #[.int .i64 A, .int .i64 B, .int .i64 c, .int .i64 d, .int .i64 e] 23)).alloc (.cells #[.int .i64 A, .int .i64 B, .int .i64 c, .int .i64 d, .int .i64 e] 23)) := ((Below.refl _ _).alloc (Nat.le_refl _) _).alloc (by simp) _
  have hb1 := hb.kept (World.grownBy_alloc _ (.cells #[.int .i64 A, .int .i64 B, .int .i64 c, .int .i64 d, .int .i64 e] 23) none) (by simp)
  generalize (w.alloc (.cells #[.int .i64 A, .int .i64 B, .int .i64 c, .int .i64 d, .int .i64 e] 23)).alloc (.cells #[.int .i64 A, .int .i64 B, .int .i64 c, .int .i64 d, .int .i64 e] 23) = W at *
  have c0 := hb1.cell 0
  have c1 := hb1.cell 1
  simp at c0 c1
  clear hb hri hb1
  go_wp2
  go_ret
  exact ⟨ret_one (congrArg (Value.int .i64) (by simp)), hB1⟩

set_option maxHeartbeats 1000000 in
theorem RReadHalf_any (base : Nat) (w : World) (L : Lay) (N : NSt) (n : Nat) (h : Chip 74 base w L N) (ok : N.Ok n) (hr : rightS N.A N.B N.c N.d N.e = true) (hf : Int) :
    Calls Try.prog 19 #[.pointer (some ⟨L.c, 0, none⟩), .int .i64 hf] w fun e w' =>
      ∃ v, e = .returned (.tuple #[v, .int .i64 (readH N hf).1]) ∧ Own w.heap.size w' v (readH N hf).2 ∧ Below w.heap.size w w' := by
  by_cases hh : isHalf hf = true
  · have e1 : readH N hf = readS N.bs (hf * (halfZ N : Int)) (halfZ N) := by unfold readH; rw [hh]; rfl
    rw [e1]
    have hb := halfZ_big ok
    have hsz := fun w => RHalfSize_any w N.A N.B N.c N.d N.e hr
    rw [show N.A / 2 * N.B = halfZ N from rfl] at hsz
    generalize hZ : halfZ N = Z at *
    obtain ⟨P, hP, hPb⟩ : ∃ P : Nat, hf * (Z : Int) = (P : Int) ∧ P ≤ Z := by
      have : hf = 0 ∨ hf = 1 := by simpa [isHalf] using hh
      rcases this with rfl | rfl
      · exact ⟨0, by simp, by omega⟩
      · exact ⟨Z, by simp, by omega⟩
    have hrd := fun w' (hc : Chip 74 base w' L N) => RRead_any base w' L N n hc ok (P : Int) Z (wf_i64 (by omega) (by omega)) (wf_i64 (by omega) (by omega))
    have hmw : IntKind.i64.wrap (hf * (Z : Int)) = (P : Int) := by rw [hP]; exact i64_in _ (by omega)
    have hP' := hP
    rw [hP']
    have c0 := h.blk.cell 0
    have c1 := h.blk.cell 1
    have c2 := h.blk.cell 2
    have c3 := h.blk.cell 3
    have c4 := h.blk.cell 4
    simp [ccells] at c0 c1 c2 c3 c4
    have hh3 : hf = 0 ∨ hf = 1 := by simpa [isHalf] using hh
    have HCH := hide h
    clear h hr hh e1
    unfold gcells at hsz
    have hcmp : ((hf != 0) = false) ∨ ((hf != 0) = true ∧ (hf != 1) = false) := by rcases hh3 with rfl | rfl <;> simp
    clear hh3
    rcases hcmp with hc0 | ⟨hc0, hc1⟩
    all_goals
      go_enter Try.func19, Try.ntmps19
      go_wp2_with fail
      refine (hsz _).mono ?_
      rintro e w3 ⟨rfl, hb3⟩
      have hC3 := HCH.out.only (l := []) (only_below hb3) (by simp) (by simp) (by simp)
      have hrd3 := hrd w3 hC3
      go_wp2_with fail
      refine hrd3.mono ?_
      rintro e w4 ⟨v, rfl, hown, hb4⟩
      go_wp2
      go_ret2
      exact ⟨_, rfl, hown.mono hb3.size, kl_step hb4 hb3⟩
  · have hh' : isHalf hf = false := by simpa using hh
    have e1 : readH N hf = (1, []) := by unfold readH; rw [hh']; rfl
    rw [e1]
    simp [isHalf] at hh'
    obtain ⟨h0, h1⟩ := hh'
    have h0' : (hf != 0) = true := by simpa using h0
    have h1' : (hf != 1) = true := by simpa using h1
    clear h hr hh e1 h0 h1
    go_enter Try.func19, Try.ntmps19
    go_wp2
    go_ret2
    exact ⟨_, rfl, Own.nil _ _, Below.refl _ _⟩
end Go.Proofs.Ytgkgbbffgcmekaa
