/-
  The document's own chip of pages: page, Load.
-/
import Derived.Test.YthiehpofmlbehaaRNandB
namespace Go.Proofs.Ythiehpofmlbehaa
open Go.RowKit
set_option linter.unusedVariables false
set_option maxRecDepth 100000

theorem RChip.gcell {w : World} {M : RLy} {N : DSt} (h : RChip w M N) : w.cell? ⟨M.c, 2, none⟩ = some (.int .i64 N.C) ∧ w.cell? ⟨M.c, 3, none⟩ = some (.int .i64 N.D) ∧ w.cell? ⟨M.c, 4, none⟩ = some (.int .i64 N.E) :=
  ⟨(h.blk.cell 2).trans rfl, (h.blk.cell 3).trans rfl, (h.blk.cell 4).trans rfl⟩
theorem RChip.ncell {w : World} {M : RLy} {N : DSt} (h : RChip w M N) : w.cell? ⟨M.c, 7, none⟩ = some (.slice (some ⟨M.nb, 0, none⟩) N.C N.C) := (h.blk.cell 7).trans rfl
theorem RChip.bcell {w : World} {M : RLy} {N : DSt} (h : RChip w M N) : w.cell? ⟨M.c, 6, none⟩ = some (.slice (some ⟨M.bb, 0, none⟩) N.bs.length M.bc) := (h.blk.cell 6).trans rfl
theorem RChip.nextAt {w : World} {M : RLy} {N : DSt} (h : RChip w M N) {j : Nat} (hj : j < N.nx.length) : w.cell? ⟨M.nb, j, none⟩ = some (.int .i64 (N.nx.getD j 0)) := by
  rw [h.nxt.cell j, List.getElem?_toArray, iv_at hj]
theorem RChip.setNext {w : World} {M : RLy} {N : DSt} (h : RChip w M N) (i : Nat) (y : Int) : RChip (w.setCell ⟨M.nb, i, none⟩ (.int .i64 y)) M { N with nx := N.nx.set i y } := by
  have hO : Only [M.nb] w (w.setCell ⟨M.nb, i, none⟩ (.int .i64 y)) := only_setCell _ _ _ _ _ (by simp)
  obtain ⟨⟨n1, n2, n3, n4, n5, n6⟩, _⟩ := h.ne
  exact ⟨h.blk.only hO (by simp; omega), h.byt.only hO (fun k e => by cases e; simp; omega), h.nxt.setI5 i y, h.ers.only hO (by simp; omega), h.ne⟩

/-- Where a page begins. -/
def pageD (N : DSt) (b p : Int) : Int := if isP N b p then (b * N.D + p) * (N.E + 16) else -1
set_option maxHeartbeats 2000000 in
theorem Rpage_at (w : World) (M : RLy) (N : DSt) (n : Nat) (h : RChip w M N) (ok : N.Ok n) (i k : Nat) (hi : i < N.C) (hk : k < N.D) :
    Calls Try.prog 42 #[.pointer (some ⟨M.c, 0, none⟩), .int .i64 i, .int .i64 k] w fun e w' => e = .returned (.int .i64 (((i * N.D + k) * (N.E + 16) : Nat) : Int)) ∧ Only [] w w' := by
  obtain ⟨c2, c3, c4⟩ := h.gcell
  have hC := ok.C1
  have hD := ok.D1
  have hE := ok.E1
  have hq := q_lt hi hk
  have hqm : N.C * N.D ≤ 2048 := Nat.mul_le_mul hC hD
  have hP : (i * N.D + k) * (N.E + 16) ≤ 2048 * 272 := Nat.mul_le_mul (by omega) (by omega)
  have e1 : ((i : Int) * (N.D : Int)) = ((i * N.D : Nat) : Int) := by simp
  have e2 : (((i * N.D : Nat) : Int) + (k : Int)) * ((N.E : Int) + 16) = (((i * N.D + k) * (N.E + 16) : Nat) : Int) := by simp
  have hi' : (i : Int) < N.C := by omega
  have hk' : (k : Int) < N.D := by omega
  generalize (i * N.D + k) * (N.E + 16) = P at *
  generalize i * N.D = R at *
  have hR : (R : Int) + k < 2048 := by omega
  have hP' : (P : Int) ≤ 557056 := by omega
  clear hq hqm hP
  go_enter Try.func42, Try.ntmps42
  go_wp2_with fail
  go_region
  all_goals
    go_wp2
    go_ret
    exact ⟨rfl, only_grown (grown_drew _ none) (by simp)⟩

end Go.Proofs.Ythiehpofmlbehaa
