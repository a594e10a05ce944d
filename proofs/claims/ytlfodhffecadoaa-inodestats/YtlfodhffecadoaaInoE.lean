/-
  Inodes: isFile, isDir, isLink.
-/
import Derived.Test.YtlfodhffecadoaaInoC
import Derived.Test.YtlfodhffecadoaaRunsC
import Derived.Test.YtlfodhffecadoaaEntT
namespace Go.Proofs.Ytlfodhffecadoaa
open Go.RowKit
set_option linter.unusedVariables false
set_option maxRecDepth 100000

theorem txt_none {t : ByteArray} (h : bl t = []) : t.toList.isEmpty = true := by rw [tl_eq, h]; rfl
theorem txt_some {t : ByteArray} (h : ¬ bl t = []) : t.toList.isEmpty = false := by
  rw [tl_eq]
  cases hb : bl t with
  | nil => exact absurd hb h
  | cons => rfl

set_option maxHeartbeats 2000000 in
theorem isFile_any (w : World) (no kind links size : Int) (t : ByteArray) (ev rv : Value) (es : List En) (rs : List Rn) (he : ERow w ev es) (hr : RRow w rv rs) :
    Calls Try.prog 33 #[.agg #[.int .i64 no, .int .i64 kind, .int .i64 links, .int .i64 size, .string t, ev, rv]] w (SaysB (rightFile ⟨no, kind, links, size, t, es, rs⟩) w) := by
  obtain ⟨w0, hw0⟩ : ∃ W, W = w.alloc (.cells #[.int .i64 no, .int .i64 kind, .int .i64 links, .int .i64 size, .string t, ev, rv] 25) := ⟨_, rfl⟩
  have hb0 : Below w.heap.size w w0 := by rw [hw0]; exact kl_alloc w _
  have hB0 : Blk w0 w.heap.size #[.int .i64 no, .int .i64 kind, .int .i64 links, .int .i64 size, .string t, ev, rv] 25 := by rw [hw0]; exact Blk.new w _ _
  have hlr := he.lenRun
  have hlm := he.len
  have H1 := hide (RightR_any w0 rv rs (hr.below hb0))
  have c3 : w0.cell? ⟨w.heap.size, 3, none⟩ = some (.int .i64 size) := hB0.cell 3
  have c4 : w0.cell? ⟨w.heap.size, 4, none⟩ = some (.string t) := hB0.cell 4
  have c5 : w0.cell? ⟨w.heap.size, 5, none⟩ = some ev := hB0.cell 5
  have c6 : w0.cell? ⟨w.heap.size, 6, none⟩ = some rv := hB0.cell 6
  have HB := hide hb0
  clear hb0 hB0 he hr
  generalize hlen : es.length = len at *
  have HE : Hid (rightFile ⟨no, kind, links, size, t, es, rs⟩ = (decide (0 ≤ size) && (decide (size ≤ 16384) && (rightS rs && (decide (bl t = []) && decide (len = 0)))))) := by
    unfold rightFile
    rw [hlen]
    exact hide rfl
  clear hlen
  go_enter Try.func33, Try.ntmps33
  go_upto_region 1 with fail
  rw [← hw0]
  clear hw0
  by_cases s0 : 0 ≤ size
  · by_cases s1 : size ≤ 16384
    · cases hq : rightS rs with
      | false =>
        have HF := hide (HE.out.trans (by rw [hq, decide_eq_true s0, decide_eq_true s1]))
        go_wp2_with fail
        refine H1.out.mono ?_
        rintro e w1 ⟨rfl, hb1⟩
        have HB1 := hide (kl_step hb1 HB.out)
        rw [hq]
        clear c3 c4 c5 c6 hb1 hq
        go_wp2
        go_ret
        exact ⟨ret_one (congrArg Value.bool HF.out.symm), HB1.out⟩
      | true =>
        by_cases ht : bl t = []
        · have ht' := txt_none ht
          have HF := hide (HE.out.trans (by rw [hq, decide_eq_true s0, decide_eq_true s1, decide_eq_true ht]))
          have HL := hide (show decide (len = 0) = ((len : Int) == 0) by rw [Bool.eq_iff_iff]; simp)
          go_wp2_with fail
          refine H1.out.mono ?_
          rintro e w1 ⟨rfl, hb1⟩
          have HB1 := hide (kl_step hb1 HB.out)
          have d4 := kl_cell hb1 c4
          have d5 := kl_cell hb1 c5
          rw [hq]
          clear c3 c4 c5 c6 hb1 hq ht
          go_wp2
          go_ret
          exact ⟨ret_one (congrArg Value.bool (HL.out.symm.trans HF.out.symm)), HB1.out⟩
        · have ht' := txt_some ht
          have HF := hide (HE.out.trans (by rw [hq, decide_eq_true s0, decide_eq_true s1, decide_eq_false ht]))
          go_wp2_with fail
          refine H1.out.mono ?_
          rintro e w1 ⟨rfl, hb1⟩
          have HB1 := hide (kl_step hb1 HB.out)
          have d4 := kl_cell hb1 c4
          have d5 := kl_cell hb1 c5
          rw [hq]
          clear c3 c4 c5 c6 hb1 hq ht
          go_wp2
          go_ret
          exact ⟨ret_one (congrArg Value.bool HF.out.symm), HB1.out⟩
    · have HF := hide (HE.out.trans (by rw [decide_eq_true s0, decide_eq_false s1]))
      have s1' : 16384 < size := by omega
      clear s1
      go_wp2
      go_ret
      exact ⟨ret_one (congrArg Value.bool HF.out.symm), HB.out⟩
  · have HF := hide (HE.out.trans (by rw [decide_eq_false s0]))
    have s0' : size < 0 := by omega
    clear s0
    go_wp2
    go_ret
    exact ⟨ret_one (congrArg Value.bool HF.out.symm), HB.out⟩

set_option maxHeartbeats 2000000 in
theorem isDir_any (w : World) (no kind links size : Int) (t : ByteArray) (ev rv : Value) (es : List En) (rs : List Rn) (he : ERow w ev es) (hr : RRow w rv rs) :
    Calls Try.prog 34 #[.agg #[.int .i64 no, .int .i64 kind, .int .i64 links, .int .i64 size, .string t, ev, rv]] w (SaysB (rightDir ⟨no, kind, links, size, t, es, rs⟩) w) := by
  obtain ⟨w0, hw0⟩ : ∃ W, W = w.alloc (.cells #[.int .i64 no, .int .i64 kind, .int .i64 links, .int .i64 size, .string t, ev, rv] 25) := ⟨_, rfl⟩
  have hb0 : Below w.heap.size w w0 := by rw [hw0]; exact kl_alloc w _
  have hB0 : Blk w0 w.heap.size #[.int .i64 no, .int .i64 kind, .int .i64 links, .int .i64 size, .string t, ev, rv] 25 := by rw [hw0]; exact Blk.new w _ _
  have hlr := hr.lenRun
  have hlm := hr.len
  have H1 := hide (RightE_any w0 ev es (he.below hb0))
  have c3 : w0.cell? ⟨w.heap.size, 3, none⟩ = some (.int .i64 size) := hB0.cell 3
  have c4 : w0.cell? ⟨w.heap.size, 4, none⟩ = some (.string t) := hB0.cell 4
  have c5 : w0.cell? ⟨w.heap.size, 5, none⟩ = some ev := hB0.cell 5
  have c6 : w0.cell? ⟨w.heap.size, 6, none⟩ = some rv := hB0.cell 6
  have HB := hide hb0
  clear hb0 hB0 he hr
  generalize hlen : rs.length = len at *
  have HE : Hid (rightDir ⟨no, kind, links, size, t, es, rs⟩ = (decide (size = 0) && (rightE es && (decide (bl t = []) && decide (len = 0))))) := by
    unfold rightDir
    rw [hlen]
    exact hide rfl
  clear hlen
  go_enter Try.func34, Try.ntmps34
  go_upto_region 1 with fail
  rw [← hw0]
  clear hw0
  by_cases s0 : size = 0
  · subst s0
    cases hq : rightE es with
    | false =>
      have HF := hide (HE.out.trans (by rw [hq]))
      go_wp2_with fail
      refine H1.out.mono ?_
      rintro e w1 ⟨rfl, hb1⟩
      have HB1 := hide (kl_step hb1 HB.out)
      rw [hq]
      clear c3 c4 c5 c6 hb1 hq
      go_wp2
      go_ret
      exact ⟨ret_one (congrArg Value.bool HF.out.symm), HB1.out⟩
    | true =>
      by_cases ht : bl t = []
      · have ht' := txt_none ht
        have HF := hide (HE.out.trans (by rw [hq, decide_eq_true ht]))
        have HL := hide (show decide (len = 0) = ((len : Int) == 0) by rw [Bool.eq_iff_iff]; simp)
        go_wp2_with fail
        refine H1.out.mono ?_
        rintro e w1 ⟨rfl, hb1⟩
        have HB1 := hide (kl_step hb1 HB.out)
        have d4 := kl_cell hb1 c4
        have d6 := kl_cell hb1 c6
        rw [hq]
        clear c3 c4 c5 c6 hb1 hq ht
        go_wp2
        go_ret
        exact ⟨ret_one (congrArg Value.bool (HL.out.symm.trans HF.out.symm)), HB1.out⟩
      · have ht' := txt_some ht
        have HF := hide (HE.out.trans (by rw [hq, decide_eq_false ht]))
        go_wp2_with fail
        refine H1.out.mono ?_
        rintro e w1 ⟨rfl, hb1⟩
        have HB1 := hide (kl_step hb1 HB.out)
        have d4 := kl_cell hb1 c4
        have d6 := kl_cell hb1 c6
        rw [hq]
        clear c3 c4 c5 c6 hb1 hq ht
        go_wp2
        go_ret
        exact ⟨ret_one (congrArg Value.bool HF.out.symm), HB1.out⟩
  · have HF := hide (HE.out.trans (by rw [decide_eq_false s0]))
    have s0' : (size == 0) = false := by simpa using s0
    clear s0
    go_wp2
    go_ret
    exact ⟨ret_one (congrArg Value.bool HF.out.symm), HB.out⟩

set_option maxHeartbeats 2000000 in
theorem isLink_any (w : World) (no kind links size : Int) (t : ByteArray) (ev rv : Value) (es : List En) (rs : List Rn) (ht : t.size ≤ maxLen) (he : ERow w ev es) (hr : RRow w rv rs) :
    Calls Try.prog 35 #[.agg #[.int .i64 no, .int .i64 kind, .int .i64 links, .int .i64 size, .string t, ev, rv]] w (SaysB (rightLink ⟨no, kind, links, size, t, es, rs⟩) w) := by
  obtain ⟨w0, hw0⟩ : ∃ W, W = w.alloc (.cells #[.int .i64 no, .int .i64 kind, .int .i64 links, .int .i64 size, .string t, ev, rv] 25) := ⟨_, rfl⟩
  have hb0 : Below w.heap.size w w0 := by rw [hw0]; exact kl_alloc w _
  have hB0 : Blk w0 w.heap.size #[.int .i64 no, .int .i64 kind, .int .i64 links, .int .i64 size, .string t, ev, rv] 25 := by rw [hw0]; exact Blk.new w _ _
  have hlr := hr.lenRun
  have hlm := hr.len
  have hle := he.lenRun
  have hme := he.len
  have H1 := hide (isTarget_any w0 t ht)
  have c3 : w0.cell? ⟨w.heap.size, 3, none⟩ = some (.int .i64 size) := hB0.cell 3
  have c4 : w0.cell? ⟨w.heap.size, 4, none⟩ = some (.string t) := hB0.cell 4
  have c5 : w0.cell? ⟨w.heap.size, 5, none⟩ = some ev := hB0.cell 5
  have c6 : w0.cell? ⟨w.heap.size, 6, none⟩ = some rv := hB0.cell 6
  have HB := hide hb0
  clear hb0 hB0 he hr
  unfold maxLen at ht
  generalize hlen : rs.length = len at *
  generalize hlem : es.length = lem at *
  have HE : Hid (rightLink ⟨no, kind, links, size, t, es, rs⟩ = (rightT (bl t) && (decide (size = (t.size : Int)) && (decide (lem = 0) && decide (len = 0))))) := by
    unfold rightLink
    rw [hlen, hlem, bl_length]
    exact hide rfl
  clear hlen hlem
  go_enter Try.func35, Try.ntmps35
  go_upto_region 1 with fail
  rw [← hw0]
  clear hw0
  go_wp2_with fail
  refine H1.out.mono ?_
  rintro e w1 ⟨rfl, rfl⟩
  cases hq : rightT (bl t) with
  | false =>
    have HF := hide (HE.out.trans (by rw [hq]))
    clear hq
    go_wp2
    go_ret
    exact ⟨ret_one (congrArg Value.bool HF.out.symm), HB.out⟩
  | true =>
    by_cases s0 : size = (t.size : Int)
    · have s0' : (size == (t.size : Int)) = true := by simpa using s0
      by_cases z0 : lem = 0
      · have HF := hide (HE.out.trans (by rw [hq, decide_eq_true s0, decide_eq_true z0]))
        have HL := hide (show decide (len = 0) = ((len : Int) == 0) by rw [Bool.eq_iff_iff]; simp)
        have z0' : ((lem : Int) == 0) = true := by simpa using z0
        clear hq s0 z0
        go_wp2
        go_ret
        exact ⟨ret_one (congrArg Value.bool (HL.out.symm.trans HF.out.symm)), HB.out⟩
      · have HF := hide (HE.out.trans (by rw [hq, decide_eq_true s0, decide_eq_false z0]))
        have z0' : ((lem : Int) == 0) = false := by simpa using z0
        clear hq s0 z0
        go_wp2
        go_ret
        exact ⟨ret_one (congrArg Value.bool HF.out.symm), HB.out⟩
    · have HF := hide (HE.out.trans (by rw [hq, decide_eq_false s0]))
      have s0' : (size == (t.size : Int)) = false := by simpa using s0
      clear hq s0
      go_wp2
      go_ret
      exact ⟨ret_one (congrArg Value.bool HF.out.symm), HB.out⟩
end Go.Proofs.Ytlfodhffecadoaa
