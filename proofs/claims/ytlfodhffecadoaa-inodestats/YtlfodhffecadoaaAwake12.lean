/-
  The laws of inode: awake; what a new inode tells.
-/
import Derived.Test.YtlfodhffecadoaaInoF
import Derived.Test.YtlfodhffecadoaaInoG
namespace Go.Proofs.Ytlfodhffecadoaa
open Go.RowKit
set_option linter.unusedVariables false
set_option maxRecDepth 100000

theorem run_field_no (a b c d n : Int) (w : World) : (Instr.field 31 (.agg #[.int .i64 a, .int .i64 b, .int .i64 c, .int .i64 d, .int .i64 n]) 0).run Try.prog w = .ok (.int .i64 a) w := by
  simp [Instr.field, go_sem, asAgg]
/-- The seven cells of an inode, read. -/
theorem seven {W : World} {B : Nat} {a b c d t ev rv : Value} {T : TypeId} (h : Blk W B #[a, b, c, d, t, ev, rv] T) :
    W.cell? ⟨B, 0, none⟩ = some a ∧ W.cell? ⟨B, 1, none⟩ = some b ∧ W.cell? ⟨B, 2, none⟩ = some c ∧ W.cell? ⟨B, 3, none⟩ = some d ∧ W.cell? ⟨B, 4, none⟩ = some t ∧ W.cell? ⟨B, 5, none⟩ = some ev ∧ W.cell? ⟨B, 6, none⟩ = some rv :=
  ⟨h.cell 0, h.cell 1, h.cell 2, h.cell 3, h.cell 4, h.cell 5, h.cell 6⟩
theorem awakeI : rightI ⟨2, 2, 2, 0, ByteArray.empty, [], []⟩ = true := rfl

set_option maxHeartbeats 4000000 in
theorem awake_any (w : World) : Calls Try.prog 7 #[] w (SaysB true w) := by
  have hn := New_any w 2 2 ByteArray.empty (by decide) (by unfold maxLen; decide)
  unfold SaysI newI at hn
  simp only [if_true, show ¬ (2 : Int) = 3 by decide, if_false] at hn
  go_enter Try.func7, Try.ntmps7
  go_wp2_with fail
  refine hn.mono ?_
  rintro e w1 ⟨rfl, hb1⟩
  go_upto_region 2 with fail
  have HX := Blk.new w1 #[.int .i64 2, .int .i64 2, .int .i64 2, .int .i64 0, .string ByteArray.empty, .slice none 0 0, .slice none 0 0] 25
  have HB := hide (kl_step (kl_alloc w1 (.cells #[.int .i64 2, .int .i64 2, .int .i64 2, .int .i64 0, .string ByteArray.empty, .slice none 0 0, .slice none 0 0] 25)) hb1)
  generalize w1.alloc (.cells #[.int .i64 2, .int .i64 2, .int .i64 2, .int .i64 0, .string ByteArray.empty, .slice none 0 0, .slice none 0 0] 25) = W at *
  generalize w1.heap.size = B at *
  have H1 := hide (RightI_any W 2 2 2 0 ByteArray.empty (.slice none 0 0) (.slice none 0 0) [] [] (by decide) (by unfold maxLen; decide) (ERow.nil W) (RRow.nil W))
  rw [awakeI] at H1
  obtain ⟨c0, c1, c2, c3, c4, c5, c6⟩ := seven HX
  have HX' := hide HX
  clear HX hn hb1
  go_wp2_with fail
  refine H1.out.mono ?_
  rintro e w2 ⟨rfl, hb2⟩
  obtain ⟨d0, d1, d2, d3, d4, d5, d6⟩ := seven (kl_blk hb2 HX'.out)
  have HB2 := hide (kl_step hb2 HB.out)
  have H2 := hide (Stat_any w2 2 2 2 0 ByteArray.empty (.slice none 0 0) (.slice none 0 0) [] [] (ERow.nil w2) (RRow.nil w2))
  generalize statSize ⟨2, 2, 2, 0, ByteArray.empty, [], []⟩ = sz at *
  generalize pagesOf ⟨2, 2, 2, 0, ByteArray.empty, [], []⟩ = pg at *
  have hf := run_field_no 2 2 2 sz pg
  clear c0 c1 c2 c3 c4 c5 c6 HX' hb2 H1
  go_wp2_with fail
  refine H2.out.mono ?_
  rintro e w3 ⟨rfl, hb3⟩
  have HB3 := hide (kl_step hb3 HB2.out)
  clear hb3 d0 d1 d2 d3 d4 d5 d6
  go_wp2
  go_ret
  exact ⟨rfl, HB3.out⟩
end Go.Proofs.Ytlfodhffecadoaa
