/-
  Package nand's Load: plain matter; a page that is loaded; the calls of a nil chip.
-/
import Derived.Test.YthiehpofmlbehaaKeep5
import Derived.Test.YthiehpofmlbehaaNandB
import Derived.Test.YthiehpofmlbehaaNandC
import Derived.Deep.RegionHeld3
import Derived.StillTailTactics
import Derived.Deep.RegionWith
namespace Go.Proofs.Ythiehpofmlbehaa
open Go.RowKit
set_option linter.unusedVariables false
set_option maxRecDepth 100000

/-- Are all bytes 255? -/
def ff (xs : List Int) : Bool := xs.all (fun x => x == 255)
theorem ff_rep {xs : List Int} {n : Nat} (h : ff xs = true) (hl : xs.length = n) : xs = List.replicate n 255 := by
  subst hl
  unfold ff at h
  rw [List.all_eq_true] at h
  exact List.eq_replicate_iff.2 ⟨rfl, fun x hx => by simpa using h x hx⟩
theorem take_one5 {xs : List Int} {k : Nat} (h : k < xs.length) : xs.take (k + 1) = xs.take k ++ [xs.getD k 0] := by
  rw [List.take_succ_eq_append_getElem h]; simp [List.getD, List.getElem?_eq_getElem h]
/-! ### a nil chip -/
theorem Read5_nil (w : World) (b p : Int) : Calls Try.prog 24 #[.pointer none, .int .i64 b, .int .i64 p] w fun e w' => e = .returned (.tuple #[.slice none 0 0, .slice none 0 0, .int .i64 2]) ∧ w' = w := by
  go_enter Try.func24, Try.ntmps24
  go_wp2
  go_ret3
  exact ⟨rfl, rfl⟩
theorem Program5_nil (w : World) (b p : Int) (d s : Value) : Calls Try.prog 21 #[.pointer none, .int .i64 b, .int .i64 p, d, s] w fun e w' => e = .returned (.int .i64 2) ∧ w' = w := by
  go_enter Try.func21, Try.ntmps21
  go_wp2
  go_ret
  exact ⟨rfl, rfl⟩
theorem Erase5_nil (w : World) (b : Int) : Calls Try.prog 13 #[.pointer none, .int .i64 b] w fun e w' => e = .returned (.int .i64 2) ∧ w' = w := by
  go_enter Try.func13, Try.ntmps13
  go_wp2
  go_ret
  exact ⟨rfl, rfl⟩
theorem Programmed5_nil (w : World) (b : Int) : Calls Try.prog 27 #[.pointer none, .int .i64 b] w fun e w' => e = .returned (.int .i64 0) ∧ w' = w := by
  go_enter Try.func27, Try.ntmps27
  go_wp2
  go_ret
  exact ⟨rfl, rfl⟩
theorem Erases5_nil (w : World) (b : Int) : Calls Try.prog 29 #[.pointer none, .int .i64 b] w fun e w' => e = .returned (.int .i64 0) ∧ w' = w := by
  go_enter Try.func29, Try.ntmps29
  go_wp2
  go_ret
  exact ⟨rfl, rfl⟩
theorem Power5_nil (w : World) : Calls Try.prog 11 #[.pointer none] w fun e w' => e = .returned (.pointer none) ∧ w' = w := by
  go_enter Try.func11, Try.ntmps11
  go_wp2
  go_ret
  exact ⟨rfl, rfl⟩
theorem Geometry5_nil (w : World) : Calls Try.prog 10 #[.pointer none] w fun e w' => e = .returned (.agg (gcells 0 0 0 0 0)) ∧ Below w.heap.size w w' := by
  unfold gcells
  go_enter Try.func10, Try.ntmps10
  go_wp2
  refine bodyPost_ret (results_cell_row rfl _ _ w.heap.size 23 _ (0, 0) _ rfl (Blk.new w _ _) Try.underlying23 rfl (by kernel_rfl)) rfl ⟨rfl, ?_⟩
  exact (Below.refl _ _).alloc (Nat.le_refl _) _

/-! ### a page that is loaded -/
theorem load_fin {w w1 w41 w42 : World} {mb nb i k m g ucap : Nat} {f : Nat → Nat → Option Value} {nx xs : List Int} (hsz : w1.heap.size = w.heap.size + 1) (hb1 : Below w.heap.size w w1) (hou : Own w1.drew.heap.size w41 (.slice (some ⟨g, 0, none⟩) xs.length ucap) xs) (hg : PgMap w42 mb (m + 1) (put2 f i k (some (.slice (some ⟨g, 0, none⟩) xs.length ucap)))) (hgr : w41.grownBy w42 (some mb))
    (hn : Blk w42 nb (iv .i64 nx).toArray 3) (hO : Only [mb] w1 w42) (hml : mb < w.heap.size) (hnl : nb < w.heap.size) (hne : mb ≠ nb) :
    Own w.heap.size (w42.drew.setCell ⟨nb, i, none⟩ (.int .i64 ((k : Int) + 1))) (.slice (some ⟨g, 0, none⟩) xs.length ucap) xs ∧ PgMap (w42.drew.setCell ⟨nb, i, none⟩ (.int .i64 ((k : Int) + 1))) mb (m + 1) (put2 f i k (some (.slice (some ⟨g, 0, none⟩) xs.length ucap))) ∧ Blk (w42.drew.setCell ⟨nb, i, none⟩ (.int .i64 ((k : Int) + 1))) nb (iv .i64 (nx.set i ((k : Int) + 1))).toArray 3 ∧ Only [mb, nb] w (w42.drew.setCell ⟨nb, i, none⟩ (.int .i64 ((k : Int) + 1))) := by
  have hsd : w1.drew.heap.size = w1.heap.size := rfl
  have hgb := hou.block g rfl
  have hO1 : Only [nb] w42 (w42.drew.setCell ⟨nb, i, none⟩ (.int .i64 ((k : Int) + 1))) := ((only_grown (grown_drew w42 none) (by simp) : Only [] w42 w42.drew).wide (by simp)).trans (only_setCell _ _ _ _ _ (by simp))
  refine ⟨?_, hg.only hO1 (by simp; omega), (hn.below (Below.refl _ _).drew hn.lt).setI5 i _, ?_⟩
  · have h1 : Own w1.drew.heap.size w42 (.slice (some ⟨g, 0, none⟩) xs.length ucap) xs := hou.only (only_grown hgr (l := [mb]) (fun j e => by cases e; simp)) (fun j e => by cases e; simp; omega)
    exact (h1.only hO1 (fun j e => by cases e; simp; omega)).mono (by omega)
  · exact (((only_below (l := []) hb1).wide (by simp) : Only [mb, nb] w w1).trans (hO.wide (by simp))).trans (hO1.wide (by simp))
end Go.Proofs.Ythiehpofmlbehaa
