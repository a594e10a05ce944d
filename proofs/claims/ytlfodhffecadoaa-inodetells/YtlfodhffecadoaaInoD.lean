/-
  Inodes: the document's New.
-/
import Derived.Test.YtlfodhffecadoaaInoC
namespace Go.Proofs.Ytlfodhffecadoaa
open Go.RowKit
set_option linter.unusedVariables false
set_option maxRecDepth 100000

set_option maxHeartbeats 2000000 in
theorem RNew_2 (w : World) (no : Int) (t : ByteArray) (hs : t.size ≤ maxLen) : Calls Try.prog 10 #[.int .i64 no, .int .i64 2, .string t] w (SaysI (newI no 2 t) w) := by
  unfold SaysI newI
  simp only [if_true, show ¬ (2 : Int) = 3 by decide, if_false]
  obtain ⟨w0, hw0⟩ : ∃ W, W = w.alloc (.cells #[.int .i64 0, .int .i64 0, .int .i64 0, .int .i64 0, .string ⟨#[]⟩, .slice none 0 0, .slice none 0 0] 25) := ⟨_, rfl⟩
  have hb0 : Below w.heap.size w w0 := by rw [hw0]; exact kl_alloc w _
  have hB0 : Blk w0 w.heap.size #[.int .i64 0, .int .i64 0, .int .i64 0, .int .i64 0, .string ⟨#[]⟩, .slice none 0 0, .slice none 0 0] 25 := by rw [hw0]; exact Blk.new w _ _
  obtain ⟨W, hW0⟩ : ∃ W, W = w0.alloc (.cells #[.int .i64 no, .int .i64 2, .int .i64 1, .int .i64 0, .string ⟨#[]⟩, .slice none 0 0, .slice none 0 0] 25) := ⟨_, rfl⟩
  have hg : Blk W w0.heap.size #[.int .i64 no, .int .i64 2, .int .i64 1, .int .i64 0, .string ⟨#[]⟩, .slice none 0 0, .slice none 0 0] 25 := by rw [hW0]; exact Blk.new w0 _ _
  have hWb : Below w0.heap.size w0 W := by rw [hW0]; exact kl_alloc w0 _
  have hlt : w.heap.size < w0.heap.size := hB0.lt
  have HBW := hide (kl_step hWb hb0)
  have HXW := hide (kl_blk hWb hB0)
  have HW0 := hide hW0
  have Hw0 := hide hw0
  clear hWb hb0 hB0 hW0 hw0
  go_enter Try.func10, Try.ntmps10
  go_upto_region 1 with fail
  rw [← Hw0.out]
  go_upto_region 2 with fail
  rw [← HW0.out]
  clear HW0 Hw0
  generalize w0.heap.size = g at *
  have c2 : W.cell? ⟨g, 2, none⟩ = some (.int .i64 1) := hg.cell 2
  have f2 := hg.frozen 2
  have HG2 := hide (hg.set 2 (.int .i64 2))
  have HX2 : Hid (Blk (W.setCell ⟨g, 2, none⟩ (.int .i64 2)) w.heap.size _ _) := hide (HXW.out.kept (grown_setCell W g 2 (.int .i64 2)) (by simp; omega))
  have HB2 := hide (HBW.out.setCell (p := ⟨g, 2, none⟩) (by show w.heap.size ≤ g; omega) (.int .i64 2))
  go_upto_region 6 with fail
  generalize W.setCell ⟨g, 2, none⟩ (.int .i64 2) = V at *
  clear HBW HXW c2 f2 hg
  obtain ⟨B, hB⟩ : ∃ B, B = w.heap.size := ⟨_, rfl⟩
  rw [← hB] at hlt HX2 ⊢
  have hne : B ≠ g := by omega
  have HEq := hide hB
  clear hB
  have a0 : V.cell? ⟨g, 0, none⟩ = _ := HG2.out.cell 0
  have a1 : V.cell? ⟨g, 1, none⟩ = _ := HG2.out.cell 1
  have a2 : V.cell? ⟨g, 2, none⟩ = _ := HG2.out.cell 2
  have a3 : V.cell? ⟨g, 3, none⟩ = _ := HG2.out.cell 3
  have a4 : V.cell? ⟨g, 4, none⟩ = _ := HG2.out.cell 4
  have a5 : V.cell? ⟨g, 5, none⟩ = _ := HG2.out.cell 5
  have a6 : V.cell? ⟨g, 6, none⟩ = _ := HG2.out.cell 6
  simp at a0 a1 a2 a3 a4 a5 a6
  have b0 : V.cell? ⟨B, 0, none⟩ = _ := HX2.out.cell 0
  have b1 : V.cell? ⟨B, 1, none⟩ = _ := HX2.out.cell 1
  have b2 : V.cell? ⟨B, 2, none⟩ = _ := HX2.out.cell 2
  have b3 : V.cell? ⟨B, 3, none⟩ = _ := HX2.out.cell 3
  have b4 : V.cell? ⟨B, 4, none⟩ = _ := HX2.out.cell 4
  have b5 : V.cell? ⟨B, 5, none⟩ = _ := HX2.out.cell 5
  have b6 : V.cell? ⟨B, 6, none⟩ = _ := HX2.out.cell 6
  simp at b0 b1 b2 b3 b4 b5 b6
  have d0 := HX2.out.frozen 0
  have d1 := HX2.out.frozen 1
  have d2 := HX2.out.frozen 2
  have d3 := HX2.out.frozen 3
  have d4 := HX2.out.frozen 4
  have d5 := HX2.out.frozen 5
  have d6 := HX2.out.frozen 6
  clear hlt
  go_wp2
  refine bodyPost_ret (results_cell_row rfl _ _ B 25 _ (0, 0) _ rfl (blk_over HX2.out _ _ _ _ _ _ _) Try.underlying25 rfl (by kernel_rfl)) rfl ⟨rfl, below_over HB2.out (by rw [HEq.out]; exact Nat.le_refl _) _ _ _ _ _ _ _⟩

set_option maxHeartbeats 2000000 in
theorem RNew_3 (w : World) (no : Int) (t : ByteArray) (hs : t.size ≤ maxLen) : Calls Try.prog 10 #[.int .i64 no, .int .i64 3, .string t] w (SaysI (newI no 3 t) w) := by
  unfold SaysI newI
  simp only [if_true, show ¬ (3 : Int) = 2 by decide, if_false]
  obtain ⟨w0, hw0⟩ : ∃ W, W = w.alloc (.cells #[.int .i64 0, .int .i64 0, .int .i64 0, .int .i64 0, .string ⟨#[]⟩, .slice none 0 0, .slice none 0 0] 25) := ⟨_, rfl⟩
  have hb0 : Below w.heap.size w w0 := by rw [hw0]; exact kl_alloc w _
  have hB0 : Blk w0 w.heap.size #[.int .i64 0, .int .i64 0, .int .i64 0, .int .i64 0, .string ⟨#[]⟩, .slice none 0 0, .slice none 0 0] 25 := by rw [hw0]; exact Blk.new w _ _
  obtain ⟨W, hW0⟩ : ∃ W, W = w0.alloc (.cells #[.int .i64 no, .int .i64 3, .int .i64 1, .int .i64 0, .string ⟨#[]⟩, .slice none 0 0, .slice none 0 0] 25) := ⟨_, rfl⟩
  have hg : Blk W w0.heap.size #[.int .i64 no, .int .i64 3, .int .i64 1, .int .i64 0, .string ⟨#[]⟩, .slice none 0 0, .slice none 0 0] 25 := by rw [hW0]; exact Blk.new w0 _ _
  have hWb : Below w0.heap.size w0 W := by rw [hW0]; exact kl_alloc w0 _
  have hlt : w.heap.size < w0.heap.size := hB0.lt
  have HBW := hide (kl_step hWb hb0)
  have HXW := hide (kl_blk hWb hB0)
  have HW0 := hide hW0
  have Hw0 := hide hw0
  clear hWb hb0 hB0 hW0 hw0
  go_enter Try.func10, Try.ntmps10
  go_upto_region 1 with fail
  rw [← Hw0.out]
  go_upto_region 2 with fail
  rw [← HW0.out]
  clear HW0 Hw0
  generalize w0.heap.size = g at *
  have c3 : W.cell? ⟨g, 3, none⟩ = some (.int .i64 0) := hg.cell 3
  have c4 : W.cell? ⟨g, 4, none⟩ = some (.string ⟨#[]⟩) := hg.cell 4
  have f3 := hg.frozen 3
  have f4 := hg.frozen 4
  have HG2 := hide ((hg.set 4 (.string t)).set 3 (.int .i64 t.size))
  have HX2 : Hid (Blk ((W.setCell ⟨g, 4, none⟩ (.string t)).setCell ⟨g, 3, none⟩ (.int .i64 t.size)) w.heap.size _ _) := hide ((HXW.out.kept (grown_setCell W g 4 (.string t)) (by simp; omega)).kept (grown_setCell _ g 3 (.int .i64 t.size)) (by simp; omega))
  have HB2 := hide ((HBW.out.setCell (p := ⟨g, 4, none⟩) (by show w.heap.size ≤ g; omega) (.string t)).setCell (p := ⟨g, 3, none⟩) (by show w.heap.size ≤ g; omega) (.int .i64 t.size))
  go_upto_region 6 with fail
  generalize (W.setCell ⟨g, 4, none⟩ (.string t)).setCell ⟨g, 3, none⟩ (.int .i64 t.size) = V at *
  clear HBW HXW c3 c4 f3 f4 hg
  obtain ⟨B, hB⟩ : ∃ B, B = w.heap.size := ⟨_, rfl⟩
  rw [← hB] at hlt HX2 ⊢
  have hne : B ≠ g := by omega
  have HEq := hide hB
  clear hB
  have a0 : V.cell? ⟨g, 0, none⟩ = _ := HG2.out.cell 0
  have a1 : V.cell? ⟨g, 1, none⟩ = _ := HG2.out.cell 1
  have a2 : V.cell? ⟨g, 2, none⟩ = _ := HG2.out.cell 2
  have a3 : V.cell? ⟨g, 3, none⟩ = _ := HG2.out.cell 3
  have a4 : V.cell? ⟨g, 4, none⟩ = _ := HG2.out.cell 4
  have a5 : V.cell? ⟨g, 5, none⟩ = _ := HG2.out.cell 5
  have a6 : V.cell? ⟨g, 6, none⟩ = _ := HG2.out.cell 6
  simp at a0 a1 a2 a3 a4 a5 a6
  have b0 : V.cell? ⟨B, 0, none⟩ = _ := HX2.out.cell 0
  have b1 : V.cell? ⟨B, 1, none⟩ = _ := HX2.out.cell 1
  have b2 : V.cell? ⟨B, 2, none⟩ = _ := HX2.out.cell 2
  have b3 : V.cell? ⟨B, 3, none⟩ = _ := HX2.out.cell 3
  have b4 : V.cell? ⟨B, 4, none⟩ = _ := HX2.out.cell 4
  have b5 : V.cell? ⟨B, 5, none⟩ = _ := HX2.out.cell 5
  have b6 : V.cell? ⟨B, 6, none⟩ = _ := HX2.out.cell 6
  simp at b0 b1 b2 b3 b4 b5 b6
  have d0 := HX2.out.frozen 0
  have d1 := HX2.out.frozen 1
  have d2 := HX2.out.frozen 2
  have d3 := HX2.out.frozen 3
  have d4 := HX2.out.frozen 4
  have d5 := HX2.out.frozen 5
  have d6 := HX2.out.frozen 6
  clear hlt
  go_wp2
  refine bodyPost_ret (results_cell_row rfl _ _ B 25 _ (0, 0) _ rfl (blk_over HX2.out _ _ _ _ _ _ _) Try.underlying25 rfl (by kernel_rfl)) rfl ⟨rfl, below_over HB2.out (by rw [HEq.out]; exact Nat.le_refl _) _ _ _ _ _ _ _⟩

set_option maxHeartbeats 2000000 in
theorem RNew_0 (w : World) (no : Int) (kind : Int) (t : ByteArray) (hs : t.size ≤ maxLen) (h2 : kind ≠ 2) (h3 : kind ≠ 3) : Calls Try.prog 10 #[.int .i64 no, .int .i64 kind, .string t] w (SaysI (newI no kind t) w) := by
  unfold SaysI newI
  simp only [h2, h3, if_false]
  obtain ⟨w0, hw0⟩ : ∃ W, W = w.alloc (.cells #[.int .i64 0, .int .i64 0, .int .i64 0, .int .i64 0, .string ⟨#[]⟩, .slice none 0 0, .slice none 0 0] 25) := ⟨_, rfl⟩
  have hb0 : Below w.heap.size w w0 := by rw [hw0]; exact kl_alloc w _
  have hB0 : Blk w0 w.heap.size #[.int .i64 0, .int .i64 0, .int .i64 0, .int .i64 0, .string ⟨#[]⟩, .slice none 0 0, .slice none 0 0] 25 := by rw [hw0]; exact Blk.new w _ _
  obtain ⟨W, hW0⟩ : ∃ W, W = w0.alloc (.cells #[.int .i64 no, .int .i64 kind, .int .i64 1, .int .i64 0, .string ⟨#[]⟩, .slice none 0 0, .slice none 0 0] 25) := ⟨_, rfl⟩
  have hg : Blk W w0.heap.size #[.int .i64 no, .int .i64 kind, .int .i64 1, .int .i64 0, .string ⟨#[]⟩, .slice none 0 0, .slice none 0 0] 25 := by rw [hW0]; exact Blk.new w0 _ _
  have hWb : Below w0.heap.size w0 W := by rw [hW0]; exact kl_alloc w0 _
  have hlt : w.heap.size < w0.heap.size := hB0.lt
  have HBW := hide (kl_step hWb hb0)
  have HXW := hide (kl_blk hWb hB0)
  have HW0 := hide hW0
  have Hw0 := hide hw0
  clear hWb hb0 hB0 hW0 hw0
  go_enter Try.func10, Try.ntmps10
  go_upto_region 1 with fail
  rw [← Hw0.out]
  go_upto_region 2 with fail
  rw [← HW0.out]
  clear HW0 Hw0
  generalize w0.heap.size = g at *
  have HG2 := hide hg
  have HX2 := HXW
  have HB2 := HBW
  clear hg HXW HBW
  go_upto_region 6 with fail
  generalize W = V at *
  obtain ⟨B, hB⟩ : ∃ B, B = w.heap.size := ⟨_, rfl⟩
  rw [← hB] at hlt HX2 ⊢
  have hne : B ≠ g := by omega
  have HEq := hide hB
  clear hB
  have a0 : V.cell? ⟨g, 0, none⟩ = _ := HG2.out.cell 0
  have a1 : V.cell? ⟨g, 1, none⟩ = _ := HG2.out.cell 1
  have a2 : V.cell? ⟨g, 2, none⟩ = _ := HG2.out.cell 2
  have a3 : V.cell? ⟨g, 3, none⟩ = _ := HG2.out.cell 3
  have a4 : V.cell? ⟨g, 4, none⟩ = _ := HG2.out.cell 4
  have a5 : V.cell? ⟨g, 5, none⟩ = _ := HG2.out.cell 5
  have a6 : V.cell? ⟨g, 6, none⟩ = _ := HG2.out.cell 6
  simp at a0 a1 a2 a3 a4 a5 a6
  have b0 : V.cell? ⟨B, 0, none⟩ = _ := HX2.out.cell 0
  have b1 : V.cell? ⟨B, 1, none⟩ = _ := HX2.out.cell 1
  have b2 : V.cell? ⟨B, 2, none⟩ = _ := HX2.out.cell 2
  have b3 : V.cell? ⟨B, 3, none⟩ = _ := HX2.out.cell 3
  have b4 : V.cell? ⟨B, 4, none⟩ = _ := HX2.out.cell 4
  have b5 : V.cell? ⟨B, 5, none⟩ = _ := HX2.out.cell 5
  have b6 : V.cell? ⟨B, 6, none⟩ = _ := HX2.out.cell 6
  simp at b0 b1 b2 b3 b4 b5 b6
  have d0 := HX2.out.frozen 0
  have d1 := HX2.out.frozen 1
  have d2 := HX2.out.frozen 2
  have d3 := HX2.out.frozen 3
  have d4 := HX2.out.frozen 4
  have d5 := HX2.out.frozen 5
  have d6 := HX2.out.frozen 6
  clear hlt
  go_wp2
  refine bodyPost_ret (results_cell_row rfl _ _ B 25 _ (0, 0) _ rfl (blk_over HX2.out _ _ _ _ _ _ _) Try.underlying25 rfl (by kernel_rfl)) rfl ⟨rfl, below_over HB2.out (by rw [HEq.out]; exact Nat.le_refl _) _ _ _ _ _ _ _⟩

theorem RNew_any (w : World) (no kind : Int) (t : ByteArray) (hs : t.size ≤ maxLen) : Calls Try.prog 10 #[.int .i64 no, .int .i64 kind, .string t] w (SaysI (newI no kind t) w) := by
  by_cases h2 : kind = 2
  · subst h2; exact RNew_2 w no t hs
  · by_cases h3 : kind = 3
    · subst h3; exact RNew_3 w no t hs
    · exact RNew_0 w no kind t hs h2 h3
end Go.Proofs.Ytlfodhffecadoaa
