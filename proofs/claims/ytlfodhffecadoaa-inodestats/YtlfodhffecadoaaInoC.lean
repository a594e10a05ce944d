/-
  Inodes: New, the document's New.
-/
import Derived.Laws.Rows
import Derived.Deep.Cut
import Derived.Test.YtlfodhffecadoaaInoB
namespace Go.Proofs.Ytlfodhffecadoaa
open Go.RowKit
set_option linter.unusedVariables false
set_option maxRecDepth 100000

theorem kindsF_1 : (kindsF 1).getD noForm = .agg #[.int .i64 0, .func (.func 33) #[] #[]] := rfl
theorem kindsF_2 : (kindsF 2).getD noForm = .agg #[.int .i64 1, .func (.func 34) #[] #[]] := rfl
theorem kindsF_3 : (kindsF 3).getD noForm = .agg #[.int .i64 0, .func (.func 35) #[] #[]] := rfl
theorem kindsF_no {k : Int} (h1 : k ≠ 1) (h2 : k ≠ 2) (h3 : k ≠ 3) : kindsF k = none := by simp [kindsF, h1, h2, h3]
theorem kindsF_0 {k : Int} (h1 : k ≠ 1) (h2 : k ≠ 2) (h3 : k ≠ 3) : (kindsF k).getD noForm = .agg #[.int .i64 0, .nilFunc] := by rw [kindsF_no h1 h2 h3]; rfl
theorem run_field_own (a : Int) (f : Value) (w : World) : (Instr.field 53 (.agg #[.int .i64 a, f]) 0).run Try.prog w = .ok (.int .i64 a) w := by
  simp [Instr.field, go_sem, asAgg]

/-- Answers an inode, and nothing elder has turned. -/
def SaysI (x : Ino) (w : World) (e : Ending) (w' : World) : Prop :=
  e = .returned (.agg #[.int .i64 x.no, .int .i64 x.kind, .int .i64 x.links, .int .i64 x.size, .string x.t, .slice none 0 0, .slice none 0 0]) ∧ Below w.heap.size w w'

/-- A struct of seven cells, stored whole. -/
theorem blk_over {V : World} {B : Nat} {t : TypeId} {z0 z1 z2 z3 z4 z5 z6 : Value} (h : Blk V B #[z0, z1, z2, z3, z4, z5, z6] t) (v0 v1 v2 v3 v4 v5 v6 : Value) :
    Blk (((((((V.setCell ⟨B, 0, none⟩ v0).setCell ⟨B, 1, none⟩ v1).setCell ⟨B, 2, none⟩ v2).setCell ⟨B, 3, none⟩ v3).setCell ⟨B, 4, none⟩ v4).setCell ⟨B, 5, none⟩ v5).setCell ⟨B, 6, none⟩ v6) B #[v0, v1, v2, v3, v4, v5, v6] t := by
  have := ((((((h.set 0 v0).set 1 v1).set 2 v2).set 3 v3).set 4 v4).set 5 v5).set 6 v6
  simpa using this
theorem below_over {w V : World} {B C : Nat} (h : Below C w V) (hc : C ≤ B) (v0 v1 v2 v3 v4 v5 v6 : Value) :
    Below C w (((((((V.setCell ⟨B, 0, none⟩ v0).setCell ⟨B, 1, none⟩ v1).setCell ⟨B, 2, none⟩ v2).setCell ⟨B, 3, none⟩ v3).setCell ⟨B, 4, none⟩ v4).setCell ⟨B, 5, none⟩ v5).setCell ⟨B, 6, none⟩ v6) :=
  ((((((h.setCell (p := ⟨B, 0, none⟩) hc v0).setCell (p := ⟨B, 1, none⟩) hc v1).setCell (p := ⟨B, 2, none⟩) hc v2).setCell (p := ⟨B, 3, none⟩) hc v3).setCell (p := ⟨B, 4, none⟩) hc v4).setCell (p := ⟨B, 5, none⟩) hc v5).setCell (p := ⟨B, 6, none⟩) hc v6
set_option maxHeartbeats 2000000 in
theorem New_1 (w : World) (no : Int) (t : ByteArray) (hs : t.size ≤ maxLen) : Calls Try.prog 9 #[.int .i64 no, .int .i64 1, .string t] w (SaysI (newI no 1 t) w) := by
  unfold SaysI newI
  simp only [show ¬ (1 : Int) = 2 by decide, show ¬ (1 : Int) = 3 by decide, if_false]
  obtain ⟨w0, hw0⟩ : ∃ W, W = w.alloc (.cells #[.int .i64 0, .int .i64 0, .int .i64 0, .int .i64 0, .string ⟨#[]⟩, .slice none 0 0, .slice none 0 0] 25) := ⟨_, rfl⟩
  have hb0 : Below w.heap.size w w0 := by rw [hw0]; exact kl_alloc w _
  have hB0 : Blk w0 w.heap.size #[.int .i64 0, .int .i64 0, .int .i64 0, .int .i64 0, .string ⟨#[]⟩, .slice none 0 0, .slice none 0 0] 25 := by rw [hw0]; exact Blk.new w _ _
  go_enter Try.func9, Try.ntmps9
  go_upto_region 1 with fail
  rw [← hw0]
  clear hw0
  go_wp2_with fail
  refine (forms_any _).mono ?_
  rintro e w1 ⟨rfl, hK, hb⟩
  have hl := hK.get 1 (by decide)
  have hB1 := hB0.below hb hB0.lt
  have hb1 := kl_step hb hb0
  rw [kindsF_1] at hl
  have hf := run_field_own 0 (.func (.func 33) #[] #[])
  have HB := hide hb1
  have HX := hide hB1
  clear hb1 hB1 hb hb0 hB0 hK
  have hg := Blk.new w1 #[.int .i64 no, .int .i64 1, .int .i64 1, .int .i64 0, .string ⟨#[]⟩, .slice none 0 0, .slice none 0 0] 25
  have hW := kl_alloc w1 (.cells #[.int .i64 no, .int .i64 1, .int .i64 1, .int .i64 0, .string ⟨#[]⟩, .slice none 0 0, .slice none 0 0] 25)
  have hlt : w.heap.size < w1.heap.size := HX.out.lt
  have HBW := hide (kl_step hW HB.out)
  have HXW := hide (kl_blk hW HX.out)
  clear HB HX hW
  go_upto_region 2 with fail
  generalize w1.alloc (.cells #[.int .i64 no, .int .i64 1, .int .i64 1, .int .i64 0, .string ⟨#[]⟩, .slice none 0 0, .slice none 0 0] 25) = W at *
  generalize w1.heap.size = g at *
  have HG2 := hide hg
  have HX2 := HXW
  have HB2 := HBW
  clear hl hf hg HXW HBW
  go_upto_region 4 with fail
  generalize W = V at *
  obtain ⟨B, hB⟩ : ∃ B, B = w.heap.size := ⟨_, rfl⟩
  rw [← hB] at hlt HX2 ⊢
  have hne : B ≠ g := by omega
  have HEq := hide hB
  clear hB
  have a0 : V.cell? ⟨g, 0, none⟩ = _ := HG2.out.cell 0
  have a1 : V.cell? ⟨g, 1, none⟩ = _ := HG2.out.cell 1
  have a2 : V.cell? ⟨g, 2, none⟩ = _ := HG2.out.cell 2
  have a3 : V.cell? ⟨g, 3, none⟩ = _ := HG2.out.cell 3
  have a4 : V.cell? ⟨g, 4, none⟩ = _ := HG2.out.cell 4
  have a5 : V.cell? ⟨g, 5, none⟩ = _ := HG2.out.cell 5
  have a6 : V.cell? ⟨g, 6, none⟩ = _ := HG2.out.cell 6
  simp at a0 a1 a2 a3 a4 a5 a6
  have b0 : V.cell? ⟨B, 0, none⟩ = _ := HX2.out.cell 0
  have b1 : V.cell? ⟨B, 1, none⟩ = _ := HX2.out.cell 1
  have b2 : V.cell? ⟨B, 2, none⟩ = _ := HX2.out.cell 2
  have b3 : V.cell? ⟨B, 3, none⟩ = _ := HX2.out.cell 3
  have b4 : V.cell? ⟨B, 4, none⟩ = _ := HX2.out.cell 4
  have b5 : V.cell? ⟨B, 5, none⟩ = _ := HX2.out.cell 5
  have b6 : V.cell? ⟨B, 6, none⟩ = _ := HX2.out.cell 6
  simp at b0 b1 b2 b3 b4 b5 b6
  have d0 := HX2.out.frozen 0
  have d1 := HX2.out.frozen 1
  have d2 := HX2.out.frozen 2
  have d3 := HX2.out.frozen 3
  have d4 := HX2.out.frozen 4
  have d5 := HX2.out.frozen 5
  have d6 := HX2.out.frozen 6
  clear hlt
  go_wp2
  refine bodyPost_ret (results_cell_row rfl _ _ B 25 _ (0, 0) _ rfl (blk_over HX2.out _ _ _ _ _ _ _) Try.underlying25 rfl (by kernel_rfl)) rfl ⟨rfl, below_over HB2.out (by rw [HEq.out]; exact Nat.le_refl _) _ _ _ _ _ _ _⟩

set_option maxHeartbeats 2000000 in
theorem New_2 (w : World) (no : Int) (t : ByteArray) (hs : t.size ≤ maxLen) : Calls Try.prog 9 #[.int .i64 no, .int .i64 2, .string t] w (SaysI (newI no 2 t) w) := by
  unfold SaysI newI
  simp only [if_true, show ¬ (2 : Int) = 3 by decide, if_false]
  obtain ⟨w0, hw0⟩ : ∃ W, W = w.alloc (.cells #[.int .i64 0, .int .i64 0, .int .i64 0, .int .i64 0, .string ⟨#[]⟩, .slice none 0 0, .slice none 0 0] 25) := ⟨_, rfl⟩
  have hb0 : Below w.heap.size w w0 := by rw [hw0]; exact kl_alloc w _
  have hB0 : Blk w0 w.heap.size #[.int .i64 0, .int .i64 0, .int .i64 0, .int .i64 0, .string ⟨#[]⟩, .slice none 0 0, .slice none 0 0] 25 := by rw [hw0]; exact Blk.new w _ _
  go_enter Try.func9, Try.ntmps9
  go_upto_region 1 with fail
  rw [← hw0]
  clear hw0
  go_wp2_with fail
  refine (forms_any _).mono ?_
  rintro e w1 ⟨rfl, hK, hb⟩
  have hl := hK.get 2 (by decide)
  have hB1 := hB0.below hb hB0.lt
  have hb1 := kl_step hb hb0
  rw [kindsF_2] at hl
  have hf := run_field_own 1 (.func (.func 34) #[] #[])
  have HB := hide hb1
  have HX := hide hB1
  clear hb1 hB1 hb hb0 hB0 hK
  have hg := Blk.new w1 #[.int .i64 no, .int .i64 2, .int .i64 2, .int .i64 0, .string ⟨#[]⟩, .slice none 0 0, .slice none 0 0] 25
  have hW := kl_alloc w1 (.cells #[.int .i64 no, .int .i64 2, .int .i64 2, .int .i64 0, .string ⟨#[]⟩, .slice none 0 0, .slice none 0 0] 25)
  have hlt : w.heap.size < w1.heap.size := HX.out.lt
  have HBW := hide (kl_step hW HB.out)
  have HXW := hide (kl_blk hW HX.out)
  clear HB HX hW
  go_upto_region 2 with fail
  generalize w1.alloc (.cells #[.int .i64 no, .int .i64 2, .int .i64 2, .int .i64 0, .string ⟨#[]⟩, .slice none 0 0, .slice none 0 0] 25) = W at *
  generalize w1.heap.size = g at *
  have HG2 := hide hg
  have HX2 := HXW
  have HB2 := HBW
  clear hl hf hg HXW HBW
  go_upto_region 4 with fail
  generalize W = V at *
  obtain ⟨B, hB⟩ : ∃ B, B = w.heap.size := ⟨_, rfl⟩
  rw [← hB] at hlt HX2 ⊢
  have hne : B ≠ g := by omega
  have HEq := hide hB
  clear hB
  have a0 : V.cell? ⟨g, 0, none⟩ = _ := HG2.out.cell 0
  have a1 : V.cell? ⟨g, 1, none⟩ = _ := HG2.out.cell 1
  have a2 : V.cell? ⟨g, 2, none⟩ = _ := HG2.out.cell 2
  have a3 : V.cell? ⟨g, 3, none⟩ = _ := HG2.out.cell 3
  have a4 : V.cell? ⟨g, 4, none⟩ = _ := HG2.out.cell 4
  have a5 : V.cell? ⟨g, 5, none⟩ = _ := HG2.out.cell 5
  have a6 : V.cell? ⟨g, 6, none⟩ = _ := HG2.out.cell 6
  simp at a0 a1 a2 a3 a4 a5 a6
  have b0 : V.cell? ⟨B, 0, none⟩ = _ := HX2.out.cell 0
  have b1 : V.cell? ⟨B, 1, none⟩ = _ := HX2.out.cell 1
  have b2 : V.cell? ⟨B, 2, none⟩ = _ := HX2.out.cell 2
  have b3 : V.cell? ⟨B, 3, none⟩ = _ := HX2.out.cell 3
  have b4 : V.cell? ⟨B, 4, none⟩ = _ := HX2.out.cell 4
  have b5 : V.cell? ⟨B, 5, none⟩ = _ := HX2.out.cell 5
  have b6 : V.cell? ⟨B, 6, none⟩ = _ := HX2.out.cell 6
  simp at b0 b1 b2 b3 b4 b5 b6
  have d0 := HX2.out.frozen 0
  have d1 := HX2.out.frozen 1
  have d2 := HX2.out.frozen 2
  have d3 := HX2.out.frozen 3
  have d4 := HX2.out.frozen 4
  have d5 := HX2.out.frozen 5
  have d6 := HX2.out.frozen 6
  clear hlt
  go_wp2
  refine bodyPost_ret (results_cell_row rfl _ _ B 25 _ (0, 0) _ rfl (blk_over HX2.out _ _ _ _ _ _ _) Try.underlying25 rfl (by kernel_rfl)) rfl ⟨rfl, below_over HB2.out (by rw [HEq.out]; exact Nat.le_refl _) _ _ _ _ _ _ _⟩

set_option maxHeartbeats 2000000 in
theorem New_3 (w : World) (no : Int) (t : ByteArray) (hs : t.size ≤ maxLen) : Calls Try.prog 9 #[.int .i64 no, .int .i64 3, .string t] w (SaysI (newI no 3 t) w) := by
  unfold SaysI newI
  simp only [if_true, show ¬ (3 : Int) = 2 by decide, if_false]
  obtain ⟨w0, hw0⟩ : ∃ W, W = w.alloc (.cells #[.int .i64 0, .int .i64 0, .int .i64 0, .int .i64 0, .string ⟨#[]⟩, .slice none 0 0, .slice none 0 0] 25) := ⟨_, rfl⟩
  have hb0 : Below w.heap.size w w0 := by rw [hw0]; exact kl_alloc w _
  have hB0 : Blk w0 w.heap.size #[.int .i64 0, .int .i64 0, .int .i64 0, .int .i64 0, .string ⟨#[]⟩, .slice none 0 0, .slice none 0 0] 25 := by rw [hw0]; exact Blk.new w _ _
  go_enter Try.func9, Try.ntmps9
  go_upto_region 1 with fail
  rw [← hw0]
  clear hw0
  go_wp2_with fail
  refine (forms_any _).mono ?_
  rintro e w1 ⟨rfl, hK, hb⟩
  have hl := hK.get 3 (by decide)
  have hB1 := hB0.below hb hB0.lt
  have hb1 := kl_step hb hb0
  rw [kindsF_3] at hl
  have hf := run_field_own 0 (.func (.func 35) #[] #[])
  have HB := hide hb1
  have HX := hide hB1
  clear hb1 hB1 hb hb0 hB0 hK
  have hg := Blk.new w1 #[.int .i64 no, .int .i64 3, .int .i64 1, .int .i64 0, .string ⟨#[]⟩, .slice none 0 0, .slice none 0 0] 25
  have hW := kl_alloc w1 (.cells #[.int .i64 no, .int .i64 3, .int .i64 1, .int .i64 0, .string ⟨#[]⟩, .slice none 0 0, .slice none 0 0] 25)
  have hlt : w.heap.size < w1.heap.size := HX.out.lt
  have HBW := hide (kl_step hW HB.out)
  have HXW := hide (kl_blk hW HX.out)
  clear HB HX hW
  go_upto_region 2 with fail
  generalize w1.alloc (.cells #[.int .i64 no, .int .i64 3, .int .i64 1, .int .i64 0, .string ⟨#[]⟩, .slice none 0 0, .slice none 0 0] 25) = W at *
  generalize w1.heap.size = g at *
  have c3 : W.cell? ⟨g, 3, none⟩ = some (.int .i64 0) := hg.cell 3
  have c4 : W.cell? ⟨g, 4, none⟩ = some (.string ⟨#[]⟩) := hg.cell 4
  have f3 := hg.frozen 3
  have f4 := hg.frozen 4
  have HG2 := hide ((hg.set 4 (.string t)).set 3 (.int .i64 t.size))
  have HX2 : Hid (Blk ((W.setCell ⟨g, 4, none⟩ (.string t)).setCell ⟨g, 3, none⟩ (.int .i64 t.size)) w.heap.size _ _) := hide ((HXW.out.kept (grown_setCell W g 4 (.string t)) (by simp; omega)).kept (grown_setCell _ g 3 (.int .i64 t.size)) (by simp; omega))
  have HB2 := hide ((HBW.out.setCell (p := ⟨g, 4, none⟩) (by show w.heap.size ≤ g; omega) (.string t)).setCell (p := ⟨g, 3, none⟩) (by show w.heap.size ≤ g; omega) (.int .i64 t.size))
  go_upto_region 4 with fail
  generalize (W.setCell ⟨g, 4, none⟩ (.string t)).setCell ⟨g, 3, none⟩ (.int .i64 t.size) = V at *
  clear HBW HXW c3 c4 f3 f4 hl hf hg
  obtain ⟨B, hB⟩ : ∃ B, B = w.heap.size := ⟨_, rfl⟩
  rw [← hB] at hlt HX2 ⊢
  have hne : B ≠ g := by omega
  have HEq := hide hB
  clear hB
  have a0 : V.cell? ⟨g, 0, none⟩ = _ := HG2.out.cell 0
  have a1 : V.cell? ⟨g, 1, none⟩ = _ := HG2.out.cell 1
  have a2 : V.cell? ⟨g, 2, none⟩ = _ := HG2.out.cell 2
  have a3 : V.cell? ⟨g, 3, none⟩ = _ := HG2.out.cell 3
  have a4 : V.cell? ⟨g, 4, none⟩ = _ := HG2.out.cell 4
  have a5 : V.cell? ⟨g, 5, none⟩ = _ := HG2.out.cell 5
  have a6 : V.cell? ⟨g, 6, none⟩ = _ := HG2.out.cell 6
  simp at a0 a1 a2 a3 a4 a5 a6
  have b0 : V.cell? ⟨B, 0, none⟩ = _ := HX2.out.cell 0
  have b1 : V.cell? ⟨B, 1, none⟩ = _ := HX2.out.cell 1
  have b2 : V.cell? ⟨B, 2, none⟩ = _ := HX2.out.cell 2
  have b3 : V.cell? ⟨B, 3, none⟩ = _ := HX2.out.cell 3
  have b4 : V.cell? ⟨B, 4, none⟩ = _ := HX2.out.cell 4
  have b5 : V.cell? ⟨B, 5, none⟩ = _ := HX2.out.cell 5
  have b6 : V.cell? ⟨B, 6, none⟩ = _ := HX2.out.cell 6
  simp at b0 b1 b2 b3 b4 b5 b6
  have d0 := HX2.out.frozen 0
  have d1 := HX2.out.frozen 1
  have d2 := HX2.out.frozen 2
  have d3 := HX2.out.frozen 3
  have d4 := HX2.out.frozen 4
  have d5 := HX2.out.frozen 5
  have d6 := HX2.out.frozen 6
  clear hlt
  go_wp2
  refine bodyPost_ret (results_cell_row rfl _ _ B 25 _ (0, 0) _ rfl (blk_over HX2.out _ _ _ _ _ _ _) Try.underlying25 rfl (by kernel_rfl)) rfl ⟨rfl, below_over HB2.out (by rw [HEq.out]; exact Nat.le_refl _) _ _ _ _ _ _ _⟩

set_option maxHeartbeats 2000000 in
theorem New_0 (w : World) (no : Int) (kind : Int) (t : ByteArray) (hs : t.size ≤ maxLen) (hk : (Lit.int .i64 kind).wf = true) (h1 : kind ≠ 1) (h2 : kind ≠ 2) (h3 : kind ≠ 3) : Calls Try.prog 9 #[.int .i64 no, .int .i64 kind, .string t] w (SaysI (newI no kind t) w) := by
  unfold SaysI newI
  simp only [h2, h3, if_false]
  obtain ⟨w0, hw0⟩ : ∃ W, W = w.alloc (.cells #[.int .i64 0, .int .i64 0, .int .i64 0, .int .i64 0, .string ⟨#[]⟩, .slice none 0 0, .slice none 0 0] 25) := ⟨_, rfl⟩
  have hb0 : Below w.heap.size w w0 := by rw [hw0]; exact kl_alloc w _
  have hB0 : Blk w0 w.heap.size #[.int .i64 0, .int .i64 0, .int .i64 0, .int .i64 0, .string ⟨#[]⟩, .slice none 0 0, .slice none 0 0] 25 := by rw [hw0]; exact Blk.new w _ _
  go_enter Try.func9, Try.ntmps9
  go_upto_region 1 with fail
  rw [← hw0]
  clear hw0
  go_wp2_with fail
  refine (forms_any _).mono ?_
  rintro e w1 ⟨rfl, hK, hb⟩
  have hl := hK.get kind hk
  have hB1 := hB0.below hb hB0.lt
  have hb1 := kl_step hb hb0
  rw [kindsF_0 h1 h2 h3] at hl
  have hf := run_field_own 0 .nilFunc
  have HB := hide hb1
  have HX := hide hB1
  clear hb1 hB1 hb hb0 hB0 hK
  have hg := Blk.new w1 #[.int .i64 no, .int .i64 kind, .int .i64 1, .int .i64 0, .string ⟨#[]⟩, .slice none 0 0, .slice none 0 0] 25
  have hW := kl_alloc w1 (.cells #[.int .i64 no, .int .i64 kind, .int .i64 1, .int .i64 0, .string ⟨#[]⟩, .slice none 0 0, .slice none 0 0] 25)
  have hlt : w.heap.size < w1.heap.size := HX.out.lt
  have HBW := hide (kl_step hW HB.out)
  have HXW := hide (kl_blk hW HX.out)
  clear HB HX hW
  go_upto_region 2 with fail
  generalize w1.alloc (.cells #[.int .i64 no, .int .i64 kind, .int .i64 1, .int .i64 0, .string ⟨#[]⟩, .slice none 0 0, .slice none 0 0] 25) = W at *
  generalize w1.heap.size = g at *
  have HG2 := hide hg
  have HX2 := HXW
  have HB2 := HBW
  clear hl hf hg HXW HBW
  go_upto_region 4 with fail
  generalize W = V at *
  obtain ⟨B, hB⟩ : ∃ B, B = w.heap.size := ⟨_, rfl⟩
  rw [← hB] at hlt HX2 ⊢
  have hne : B ≠ g := by omega
  have HEq := hide hB
  clear hB
  have a0 : V.cell? ⟨g, 0, none⟩ = _ := HG2.out.cell 0
  have a1 : V.cell? ⟨g, 1, none⟩ = _ := HG2.out.cell 1
  have a2 : V.cell? ⟨g, 2, none⟩ = _ := HG2.out.cell 2
  have a3 : V.cell? ⟨g, 3, none⟩ = _ := HG2.out.cell 3
  have a4 : V.cell? ⟨g, 4, none⟩ = _ := HG2.out.cell 4
  have a5 : V.cell? ⟨g, 5, none⟩ = _ := HG2.out.cell 5
  have a6 : V.cell? ⟨g, 6, none⟩ = _ := HG2.out.cell 6
  simp at a0 a1 a2 a3 a4 a5 a6
  have b0 : V.cell? ⟨B, 0, none⟩ = _ := HX2.out.cell 0
  have b1 : V.cell? ⟨B, 1, none⟩ = _ := HX2.out.cell 1
  have b2 : V.cell? ⟨B, 2, none⟩ = _ := HX2.out.cell 2
  have b3 : V.cell? ⟨B, 3, none⟩ = _ := HX2.out.cell 3
  have b4 : V.cell? ⟨B, 4, none⟩ = _ := HX2.out.cell 4
  have b5 : V.cell? ⟨B, 5, none⟩ = _ := HX2.out.cell 5
  have b6 : V.cell? ⟨B, 6, none⟩ = _ := HX2.out.cell 6
  simp at b0 b1 b2 b3 b4 b5 b6
  have d0 := HX2.out.frozen 0
  have d1 := HX2.out.frozen 1
  have d2 := HX2.out.frozen 2
  have d3 := HX2.out.frozen 3
  have d4 := HX2.out.frozen 4
  have d5 := HX2.out.frozen 5
  have d6 := HX2.out.frozen 6
  clear hlt
  go_wp2
  refine bodyPost_ret (results_cell_row rfl _ _ B 25 _ (0, 0) _ rfl (blk_over HX2.out _ _ _ _ _ _ _) Try.underlying25 rfl (by kernel_rfl)) rfl ⟨rfl, below_over HB2.out (by rw [HEq.out]; exact Nat.le_refl _) _ _ _ _ _ _ _⟩

theorem New_any (w : World) (no kind : Int) (t : ByteArray) (hk : (Lit.int .i64 kind).wf = true) (hs : t.size ≤ maxLen) : Calls Try.prog 9 #[.int .i64 no, .int .i64 kind, .string t] w (SaysI (newI no kind t) w) := by
  by_cases h1 : kind = 1
  · subst h1; exact New_1 w no t hs
  · by_cases h2 : kind = 2
    · subst h2; exact New_2 w no t hs
    · by_cases h3 : kind = 3
      · subst h3; exact New_3 w no t hs
      · exact New_0 w no kind t hs hk h1 h2 h3

end Go.Proofs.Ytlfodhffecadoaa
