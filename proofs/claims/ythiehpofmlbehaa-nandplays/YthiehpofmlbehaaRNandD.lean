/-
  The document's own chip of pages: page of any numbers, Programmed, Erases.
-/
import Derived.Test.YthiehpofmlbehaaRNandC
namespace Go.Proofs.Ythiehpofmlbehaa
open Go.RowKit
set_option linter.unusedVariables false
set_option maxRecDepth 100000

theorem RChip.ecell {w : World} {M : RLy} {N : DSt} (h : RChip w M N) : w.cell? ⟨M.c, 8, none⟩ = some (.slice (some ⟨M.eb, 0, none⟩) N.C N.C) := (h.blk.cell 8).trans rfl
theorem RChip.countAt {w : World} {M : RLy} {N : DSt} (h : RChip w M N) {j : Nat} (hj : j < N.er.length) : w.cell? ⟨M.eb, j, none⟩ = some (.int .i64 (N.er.getD j 0)) := by
  rw [h.ers.cell j, List.getElem?_toArray, iv_at hj]
theorem isP_no {N : DSt} {b p : Int} (h : isP N b p = false) : b < 0 ∨ (0 ≤ b ∧ (N.C : Int) ≤ b) ∨ ((0 ≤ b ∧ b < N.C) ∧ p < 0) ∨ ((0 ≤ b ∧ b < N.C) ∧ 0 ≤ p ∧ (N.D : Int) ≤ p) := by
  simp [isP] at h
  omega
set_option maxHeartbeats 2000000 in
theorem Rpage_none (w : World) (M : RLy) (N : DSt) (n : Nat) (h : RChip w M N) (ok : N.Ok n) (b p : Int) (hP : isP N b p = false) :
    Calls Try.prog 42 #[.pointer (some ⟨M.c, 0, none⟩), .int .i64 b, .int .i64 p] w fun e w' => e = .returned (.int .i64 (-1)) ∧ w' = w := by
  obtain ⟨c2, c3, c4⟩ := h.gcell
  have hC := ok.C1
  have hD := ok.D1
  rcases isP_no hP with h1 | ⟨h1, h2⟩ | ⟨⟨h1, h2⟩, h3⟩ | ⟨⟨h1, h2⟩, h3, h4⟩
  all_goals
    clear hP
    go_enter Try.func42, Try.ntmps42
    go_wp2
    go_ret
    exact ⟨rfl, rfl⟩
theorem RProgrammed_any (w : World) (M : RLy) (N : DSt) (n : Nat) (h : RChip w M N) (ok : N.Ok n) (b : Int) :
    Calls Try.prog 28 #[.pointer (some ⟨M.c, 0, none⟩), .int .i64 b] w fun e w' => e = .returned (.int .i64 (nextD N b)) ∧ w' = w := by
  obtain ⟨c2, c3, c4⟩ := h.gcell
  have c7 := h.ncell
  have hC := ok.C1
  unfold nextD
  by_cases h1 : 0 ≤ b
  · by_cases h2 : b < N.C
    · obtain ⟨i, rfl⟩ := Int.eq_ofNat_of_zero_le h1
      have ci := h.nextAt (j := i) (by rw [ok.nl]; omega)
      rw [show isB N (i : Int) = true from decide_eq_true ⟨h1, h2⟩, if_pos rfl, Int.toNat_natCast]
      generalize N.nx.getD i 0 = x at *
      go_enter Try.func28, Try.ntmps28
      go_wp2
      go_ret
      exact ⟨rfl, rfl⟩
    · rw [show isB N b = false from decide_eq_false (by omega), if_neg (by simp)]
      go_enter Try.func28, Try.ntmps28
      go_wp2
      go_ret
      exact ⟨rfl, rfl⟩
  · rw [show isB N b = false from decide_eq_false (by omega), if_neg (by simp)]
    go_enter Try.func28, Try.ntmps28
    go_wp2
    go_ret
    exact ⟨rfl, rfl⟩
theorem RErases_any (w : World) (M : RLy) (N : DSt) (n : Nat) (h : RChip w M N) (ok : N.Ok n) (b : Int) :
    Calls Try.prog 30 #[.pointer (some ⟨M.c, 0, none⟩), .int .i64 b] w fun e w' => e = .returned (.int .i64 (countD N b)) ∧ w' = w := by
  obtain ⟨c2, c3, c4⟩ := h.gcell
  have c8 := h.ecell
  have hC := ok.C1
  unfold countD
  by_cases h1 : 0 ≤ b
  · by_cases h2 : b < N.C
    · obtain ⟨i, rfl⟩ := Int.eq_ofNat_of_zero_le h1
      have ci := h.countAt (j := i) (by rw [ok.el]; omega)
      rw [show isB N (i : Int) = true from decide_eq_true ⟨h1, h2⟩, if_pos rfl, Int.toNat_natCast]
      generalize N.er.getD i 0 = x at *
      go_enter Try.func30, Try.ntmps30
      go_wp2
      go_ret
      exact ⟨rfl, rfl⟩
    · rw [show isB N b = false from decide_eq_false (by omega), if_neg (by simp)]
      go_enter Try.func30, Try.ntmps30
      go_wp2
      go_ret
      exact ⟨rfl, rfl⟩
  · rw [show isB N b = false from decide_eq_false (by omega), if_neg (by simp)]
    go_enter Try.func30, Try.ntmps30
    go_wp2
    go_ret
    exact ⟨rfl, rfl⟩
end Go.Proofs.Ythiehpofmlbehaa
