/-
  The document's RightInode.
-/
import Derived.Test.YtlfodhffecadoaaInoE
import Derived.Test.YtlfodhffecadoaaInoH
import Derived.Test.YtlfodhffecadoaaEntU
namespace Go.Proofs.Ytlfodhffecadoaa
open Go.RowKit
set_option linter.unusedVariables false
set_option maxRecDepth 100000

theorem rightI_of {no kind links size : Int} {t : ByteArray} {es : List En} {rs : List Rn} (n0 : 1 ≤ no) (l0 : 0 ≤ links) (l1 : links ≤ 100) : rightI ⟨no, kind, links, size, t, es, rs⟩ = rightKind ⟨no, kind, links, size, t, es, rs⟩ := by
  unfold rightI
  rw [decide_eq_true (show 0 < no by omega), decide_eq_true l0, decide_eq_true l1, Bool.true_and, Bool.true_and, Bool.true_and]
theorem rightI_no {no kind links size : Int} {t : ByteArray} {es : List En} {rs : List Rn} (h : ¬ (1 ≤ no ∧ 0 ≤ links ∧ links ≤ 100)) : rightI ⟨no, kind, links, size, t, es, rs⟩ = false := by
  unfold rightI
  dsimp only
  by_cases n0 : 0 < no
  · by_cases l0 : 0 ≤ links
    · by_cases l1 : links ≤ 100
      · exact absurd ⟨by omega, l0, l1⟩ h
      · rw [decide_eq_false l1]; simp
    · rw [decide_eq_false l0]; simp
  · rw [decide_eq_false n0]; simp

set_option maxHeartbeats 8000000 in
theorem RRightI_any (w : World) (no kind links size : Int) (t : ByteArray) (ev rv : Value) (es : List En) (rs : List Rn) (ht : t.size ≤ maxLen) (he : ERow w ev es) (hr : RRow w rv rs) :
    Calls Try.prog 12 #[.agg #[.int .i64 no, .int .i64 kind, .int .i64 links, .int .i64 size, .string t, ev, rv]] w (SaysB (rightI ⟨no, kind, links, size, t, es, rs⟩) w) := by
  obtain ⟨w0, hw0⟩ : ∃ W, W = w.alloc (.cells #[.int .i64 no, .int .i64 kind, .int .i64 links, .int .i64 size, .string t, ev, rv] 25) := ⟨_, rfl⟩
  have hb0 : Below w.heap.size w w0 := by rw [hw0]; exact kl_alloc w _
  have hB0 : Blk w0 w.heap.size #[.int .i64 no, .int .i64 kind, .int .i64 links, .int .i64 size, .string t, ev, rv] 25 := by rw [hw0]; exact Blk.new w _ _
  have hlr := hr.lenRun
  have hlm := hr.len
  have hle := he.lenRun
  have hme := he.len
  have HR1 := hide (RRightR_any w0 rv rs (hr.below hb0))
  have HD1 := hide (RRightE_any w0 ev es (he.below hb0))
  have HL1 := hide (RTarget_any w0 t ht)
  have c0 : w0.cell? ⟨w.heap.size, 0, none⟩ = some (.int .i64 no) := hB0.cell 0
  have c1 : w0.cell? ⟨w.heap.size, 1, none⟩ = some (.int .i64 kind) := hB0.cell 1
  have c2 : w0.cell? ⟨w.heap.size, 2, none⟩ = some (.int .i64 links) := hB0.cell 2
  have c3 : w0.cell? ⟨w.heap.size, 3, none⟩ = some (.int .i64 size) := hB0.cell 3
  have c4 : w0.cell? ⟨w.heap.size, 4, none⟩ = some (.string t) := hB0.cell 4
  have c5 : w0.cell? ⟨w.heap.size, 5, none⟩ = some ev := hB0.cell 5
  have c6 : w0.cell? ⟨w.heap.size, 6, none⟩ = some rv := hB0.cell 6
  have HB := hide hb0
  clear hb0 hB0 he hr
  unfold maxLen at ht
  have HLEN := hide (rfl : rs.length = rs.length)
  generalize hlen : rs.length = len at *
  generalize hlem : es.length = lem at *
  have HLN := hide hlen
  have HLM := hide hlem
  clear hlen hlem HLEN
  go_enter Try.func12, Try.ntmps12
  go_upto_region 1 with fail
  rw [← hw0]
  clear hw0
  by_cases n0 : no < 1
  · have HF := hide (rightI_no (no := no) (kind := kind) (links := links) (size := size) (t := t) (es := es) (rs := rs) (by omega))
    go_wp2
    go_ret
    exact ⟨ret_one (congrArg Value.bool HF.out.symm), HB.out⟩
  by_cases l0 : links < 0
  · have HF := hide (rightI_no (no := no) (kind := kind) (links := links) (size := size) (t := t) (es := es) (rs := rs) (by omega))
    have n0' : 1 ≤ no := by omega
    clear n0
    go_wp2
    go_ret
    exact ⟨ret_one (congrArg Value.bool HF.out.symm), HB.out⟩
  by_cases l1 : 100 < links
  · have HF := hide (rightI_no (no := no) (kind := kind) (links := links) (size := size) (t := t) (es := es) (rs := rs) (by omega))
    have n0' : 1 ≤ no := by omega
    have l0' : 0 ≤ links := by omega
    clear n0 l0
    go_wp2
    go_ret
    exact ⟨ret_one (congrArg Value.bool HF.out.symm), HB.out⟩
  have n0' : 1 ≤ no := by omega
  have l0' : 0 ≤ links := by omega
  have l1' : links ≤ 100 := by omega
  have HI := hide (rightI_of (no := no) (kind := kind) (links := links) (size := size) (t := t) (es := es) (rs := rs) n0' l0' l1')
  clear n0 l0 l1
  by_cases k1 : kind = 1
  · have k1' : (kind == 1) = true := by simpa using k1
    have HE : Hid (rightI ⟨no, kind, links, size, t, es, rs⟩ = (decide (0 ≤ size) && (decide (size ≤ 16384) && (rightS rs && (decide (bl t = []) && decide (lem = 0)))))) := by
      rw [← HLM.out]
      exact HI.out.trans (by unfold rightKind; rw [if_pos k1]; rfl)
    have H1 := HR1
    clear k1 HR1 HD1 HL1 HI
    go_upto_region 5 with fail
    clear c0 c1 c2 n0' l0' l1'
    by_cases s0 : 0 ≤ size
    · by_cases s1 : size ≤ 16384
      · cases hq : rightS rs with
        | false =>
          have HF := hide (HE.out.trans (by rw [hq, decide_eq_true s0, decide_eq_true s1]))
          go_wp2_with fail
          refine H1.out.mono ?_
          rintro e w1 ⟨rfl, hb1⟩
          have HB1 := hide (kl_step hb1 HB.out)
          rw [hq]
          clear c3 c4 c5 c6 hb1 hq
          go_wp2
          go_ret
          exact ⟨ret_one (congrArg Value.bool HF.out.symm), HB1.out⟩
        | true =>
          by_cases ht : bl t = []
          · have ht' := txt_none ht
            have HF := hide (HE.out.trans (by rw [hq, decide_eq_true s0, decide_eq_true s1, decide_eq_true ht]))
            have HL := hide (show decide (lem = 0) = ((lem : Int) == 0) by rw [Bool.eq_iff_iff]; simp)
            go_wp2_with fail
            refine H1.out.mono ?_
            rintro e w1 ⟨rfl, hb1⟩
            have HB1 := hide (kl_step hb1 HB.out)
            have d4 := kl_cell hb1 c4
            have d5 := kl_cell hb1 c5
            rw [hq]
            clear c3 c4 c5 c6 hb1 hq ht
            go_wp2
            go_ret
            exact ⟨ret_one (congrArg Value.bool (HL.out.symm.trans HF.out.symm)), HB1.out⟩
          · have ht' := txt_some ht
            have HF := hide (HE.out.trans (by rw [hq, decide_eq_true s0, decide_eq_true s1, decide_eq_false ht]))
            go_wp2_with fail
            refine H1.out.mono ?_
            rintro e w1 ⟨rfl, hb1⟩
            have HB1 := hide (kl_step hb1 HB.out)
            have d4 := kl_cell hb1 c4
            have d5 := kl_cell hb1 c5
            rw [hq]
            clear c3 c4 c5 c6 hb1 hq ht
            go_wp2
            go_ret
            exact ⟨ret_one (congrArg Value.bool HF.out.symm), HB1.out⟩
      · have HF := hide (HE.out.trans (by rw [decide_eq_true s0, decide_eq_false s1]))
        have s1' : 16384 < size := by omega
        clear s1
        go_wp2
        go_ret
        exact ⟨ret_one (congrArg Value.bool HF.out.symm), HB.out⟩
    · have HF := hide (HE.out.trans (by rw [decide_eq_false s0]))
      have s0' : size < 0 := by omega
      clear s0
      go_wp2
      go_ret
      exact ⟨ret_one (congrArg Value.bool HF.out.symm), HB.out⟩
  by_cases k2 : kind = 2
  · have k1' : (kind == 1) = false := by simpa using k1
    have k2' : (kind == 2) = true := by simpa using k2
    have HE : Hid (rightI ⟨no, kind, links, size, t, es, rs⟩ = (decide (size = 0) && (rightE es && (decide (bl t = []) && decide (len = 0))))) := by
      rw [← HLN.out]
      exact HI.out.trans (by unfold rightKind; rw [if_neg k1, if_pos k2]; rfl)
    have H1 := HD1
    clear k1 k2 HR1 HD1 HL1 HI
    go_upto_region 7 with fail
    clear c0 c1 c2 n0' l0' l1'
    by_cases s0 : size = 0
    · subst s0
      cases hq : rightE es with
      | false =>
        have HF := hide (HE.out.trans (by rw [hq]))
        go_wp2_with fail
        refine H1.out.mono ?_
        rintro e w1 ⟨rfl, hb1⟩
        have HB1 := hide (kl_step hb1 HB.out)
        rw [hq]
        clear c3 c4 c5 c6 hb1 hq
        go_wp2
        go_ret
        exact ⟨ret_one (congrArg Value.bool HF.out.symm), HB1.out⟩
      | true =>
        by_cases ht : bl t = []
        · have ht' := txt_none ht
          have HF := hide (HE.out.trans (by rw [hq, decide_eq_true ht]))
          have HL := hide (show decide (len = 0) = ((len : Int) == 0) by rw [Bool.eq_iff_iff]; simp)
          go_wp2_with fail
          refine H1.out.mono ?_
          rintro e w1 ⟨rfl, hb1⟩
          have HB1 := hide (kl_step hb1 HB.out)
          have d4 := kl_cell hb1 c4
          have d6 := kl_cell hb1 c6
          rw [hq]
          clear c3 c4 c5 c6 hb1 hq ht
          go_wp2
          go_ret
          exact ⟨ret_one (congrArg Value.bool (HL.out.symm.trans HF.out.symm)), HB1.out⟩
        · have ht' := txt_some ht
          have HF := hide (HE.out.trans (by rw [hq, decide_eq_false ht]))
          go_wp2_with fail
          refine H1.out.mono ?_
          rintro e w1 ⟨rfl, hb1⟩
          have HB1 := hide (kl_step hb1 HB.out)
          have d4 := kl_cell hb1 c4
          have d6 := kl_cell hb1 c6
          rw [hq]
          clear c3 c4 c5 c6 hb1 hq ht
          go_wp2
          go_ret
          exact ⟨ret_one (congrArg Value.bool HF.out.symm), HB1.out⟩
    · have HF := hide (HE.out.trans (by rw [decide_eq_false s0]))
      have s0' : (size == 0) = false := by simpa using s0
      clear s0
      go_wp2
      go_ret
      exact ⟨ret_one (congrArg Value.bool HF.out.symm), HB.out⟩
  by_cases k3 : kind = 3
  · have k1' : (kind == 1) = false := by simpa using k1
    have k2' : (kind == 2) = false := by simpa using k2
    have k3' : (kind == 3) = true := by simpa using k3
    have HE : Hid (rightI ⟨no, kind, links, size, t, es, rs⟩ = (rightT (bl t) && (decide (size = (t.size : Int)) && (decide (lem = 0) && decide (len = 0))))) := by
      rw [← HLN.out, ← HLM.out]
      exact HI.out.trans (by unfold rightKind; rw [if_neg k1, if_neg k2, if_pos k3]; unfold rightLink; rw [bl_length])
    have H1 := HL1
    clear k1 k2 k3 HR1 HD1 HL1 HI
    go_upto_region 9 with fail
    clear c0 c1 c2 n0' l0' l1'
    go_wp2_with fail
    refine H1.out.mono ?_
    rintro e w1 ⟨rfl, rfl⟩
    cases hq : rightT (bl t) with
    | false =>
      have HF := hide (HE.out.trans (by rw [hq]))
      clear hq
      go_wp2
      go_ret
      exact ⟨ret_one (congrArg Value.bool HF.out.symm), HB.out⟩
    | true =>
      by_cases s0 : size = (t.size : Int)
      · have s0' : (size == (t.size : Int)) = true := by simpa using s0
        by_cases z0 : lem = 0
        · have HF := hide (HE.out.trans (by rw [hq, decide_eq_true s0, decide_eq_true z0]))
          have HL := hide (show decide (len = 0) = ((len : Int) == 0) by rw [Bool.eq_iff_iff]; simp)
          have z0' : ((lem : Int) == 0) = true := by simpa using z0
          clear hq s0 z0
          go_wp2
          go_ret
          exact ⟨ret_one (congrArg Value.bool (HL.out.symm.trans HF.out.symm)), HB.out⟩
        · have HF := hide (HE.out.trans (by rw [hq, decide_eq_true s0, decide_eq_false z0]))
          have z0' : ((lem : Int) == 0) = false := by simpa using z0
          clear hq s0 z0
          go_wp2
          go_ret
          exact ⟨ret_one (congrArg Value.bool HF.out.symm), HB.out⟩
      · have HF := hide (HE.out.trans (by rw [hq, decide_eq_false s0]))
        have s0' : (size == (t.size : Int)) = false := by simpa using s0
        clear hq s0
        go_wp2
        go_ret
        exact ⟨ret_one (congrArg Value.bool HF.out.symm), HB.out⟩
  · have k1' : (kind == 1) = false := by simpa using k1
    have k2' : (kind == 2) = false := by simpa using k2
    have k3' : (kind == 3) = false := by simpa using k3
    have HF := hide (HI.out.trans (rightKind_bad (x := ⟨no, kind, links, size, t, es, rs⟩) k1 k2 k3))
    clear k1 k2 k3 HR1 HD1 HL1 HI
    go_wp2
    go_ret
    exact ⟨ret_one (congrArg Value.bool HF.out.symm), HB.out⟩
end Go.Proofs.Ytlfodhffecadoaa
