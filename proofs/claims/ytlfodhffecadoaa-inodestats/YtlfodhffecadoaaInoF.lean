/-
  Inodes: Right.
-/
import Derived.Deep.RegionWith
import Derived.Laws.EntriesVeiled
import Derived.Deep.CutBlock
import Derived.Deep.DeepCutAuto
import Derived.Test.YtlfodhffecadoaaInoE
namespace Go.Proofs.Ytlfodhffecadoaa
open Go.RowKit
set_option linter.unusedVariables false
set_option maxRecDepth 100000

theorem forms_some (w : World) : Calls Try.prog 21 #[] w fun e w' => ∃ b, e = .returned (.map (some b)) ∧ KMap w' b 3 kindsF ∧ Below w.heap.size w w' :=
  (forms_any w).mono fun e w' ⟨h1, h2, h3⟩ => ⟨_, h1, h2, h3⟩
theorem look_1 {w : World} {b n : Nat} (h : KMap w b n kindsF) (k : Int) (hk : (Lit.int .i64 k).wf = true) (a : Int) (f : Value) (hf : (kindsF k).getD noForm = .agg #[.int .i64 a, f]) :
    (Instr.lookup 54 (.map (some b)) (.agg #[.int .i64 k]) true).run Try.prog w = .ok (.tuple #[.agg #[.int .i64 a, f], .bool (kindsF k).isSome]) w := by
  rw [h.look k hk, hf]
/-- What the region keeps. -/
def KeepF (w0 : World) (B : Nat) (cs : Array Value) (w : World) : Prop := Blk w B cs 25 ∧ Below w0.heap.size w0 w
theorem KeepF.set {w0 w : World} {B g : Nat} {cs : Array Value} (h : KeepF w0 B cs w) (hB : w0.heap.size = B) (i : Nat) (hg : B < g) (v : Value) : KeepF w0 B cs (w.setCell ⟨g, i, none⟩ v) :=
  ⟨h.1.kept (grown_setCell w g i v) (by simp; omega), h.2.setCell (p := ⟨g, i, none⟩) (by show w0.heap.size ≤ g; omega) v⟩
theorem KeepF.step {w0 : World} {B : Nat} {cs : Array Value} {w w' : World} (h : KeepF w0 B cs w) (hb : Below w.heap.size w w') : KeepF w0 B cs w' := ⟨kl_blk hb h.1, kl_step hb h.2⟩

set_option maxHeartbeats 4000000 in
theorem RightI_1 (w : World) (no links size : Int) (t : ByteArray) (ev rv : Value) (es : List En) (rs : List Rn) (ht : t.size ≤ maxLen) (he : ERow w ev es) (hr : RRow w rv rs) :
    Calls Try.prog 11 #[.agg #[.int .i64 no, .int .i64 1, .int .i64 links, .int .i64 size, .string t, ev, rv]] w (SaysB (rightI ⟨no, 1, links, size, t, es, rs⟩) w) := by
  obtain ⟨w0, hw0⟩ : ∃ W, W = w.alloc (.cells #[.int .i64 no, .int .i64 1, .int .i64 links, .int .i64 size, .string t, ev, rv] 25) := ⟨_, rfl⟩
  have HK := hide (show KeepF w w.heap.size #[.int .i64 no, .int .i64 1, .int .i64 links, .int .i64 size, .string t, ev, rv] w0 from ⟨by rw [hw0]; exact Blk.new w _ _, by rw [hw0]; exact kl_alloc w _⟩)
  have c1 : w0.cell? ⟨w.heap.size, 1, none⟩ = some (.int .i64 1) := HK.out.1.cell 1
  have hlt : w.heap.size < w0.heap.size := HK.out.1.lt
  have HI : Hid (rightI ⟨no, 1, links, size, t, es, rs⟩ = (decide (0 < no) && (decide (0 ≤ links) && (decide (links ≤ 100) && rightFile ⟨no, 1, links, size, t, es, rs⟩)))) := hide rfl
  have HE := hide he
  have HR := hide hr
  clear he hr
  go_enter Try.func11, Try.ntmps11
  go_upto_region 1 with fail
  rw [← hw0]
  clear hw0
  generalize hB : w.heap.size = B at *
  have HQ := hide hB
  clear hB
  go_cut [3, 4] (fun p c wx => c = .bool true ∧ ∃ g, p = .pointer (some ⟨g, 0, none⟩) ∧ Blk wx g #[.int .i64 0, (.func (.func 33) #[] #[])] 53 ∧ KeepF w B #[.int .i64 no, .int .i64 1, .int .i64 links, .int .i64 size, .string t, ev, rv] wx)
  case first =>
    have k1 : KeepF w B _ w0.drew := HK.out.step (kl_drew w0)
    have k2 : KeepF w B _ (w0.alloc (.cells #[.int .i64 0, .nilFunc] 53)).drew := (HK.out.step (kl_alloc w0 _)).step (kl_drew _)
    have d1 : w0.drew.cell? ⟨B, 1, none⟩ = some (.int .i64 1) := k1.1.cell 1
    have d2 : (w0.alloc (.cells #[.int .i64 0, .nilFunc] 53)).drew.cell? ⟨B, 1, none⟩ = some (.int .i64 1) := k2.1.cell 1
    have HZ := hide (kl_blk (kl_drew _) (Blk.new w0 #[.int .i64 0, .nilFunc] 53))
    have HZK := hide k2
    have z0 : (w0.alloc (.cells #[.int .i64 0, .nilFunc] 53)).drew.cell? ⟨w0.heap.size, 0, none⟩ = some (.int .i64 0) := HZ.out.cell 0
    have z1 : (w0.alloc (.cells #[.int .i64 0, .nilFunc] 53)).drew.cell? ⟨w0.heap.size, 1, none⟩ = some .nilFunc := HZ.out.cell 1
    go_region_with (first
      | (go_at_call 21; refine (forms_some _).mono ?_; rintro e w1 ⟨b, rfl, hK1, hb1⟩
         first
           | (have q1 := kl_cell hb1 d2
              have q2 := kl_cell hb1 z0
              have q3 := kl_cell hb1 z1
              have q4 := (kl_blk hb1 HZ.out).frozen 0
              have q5 := (kl_blk hb1 HZ.out).frozen 1
              have q6 := look_1 hK1 1 (by decide) _ _ (kindsF_1)
              have HG := hide hlt
              have HX := hide (kl_blk hb1 HZ.out)
              have HY := hide (HZK.out.step hb1))
           | (have q1 := kl_cell hb1 d1
              have q2 := kl_cell (kl_alloc w1 (.cells #[.int .i64 0, .nilFunc] 53)) q1
              have q4 := (Blk.new w1 #[.int .i64 0, .nilFunc] 53).frozen 0
              have q5 := (Blk.new w1 #[.int .i64 0, .nilFunc] 53).frozen 1
              have q6 : (w1.alloc (.cells #[.int .i64 0, .nilFunc] 53)).cell? ⟨w1.heap.size, 0, none⟩ = some (.int .i64 0) := (Blk.new w1 #[.int .i64 0, .nilFunc] 53).cell 0
              have q7 : (w1.alloc (.cells #[.int .i64 0, .nilFunc] 53)).cell? ⟨w1.heap.size, 1, none⟩ = some .nilFunc := (Blk.new w1 #[.int .i64 0, .nilFunc] 53).cell 1
              have q8 := look_1 hK1 1 (by decide) _ _ (kindsF_1)
              have q9 := look_1 (hK1.below (kl_alloc w1 (.cells #[.int .i64 0, .nilFunc] 53))) 1 (by decide) _ _ (kindsF_1)
              have HG := hide (show B < w1.heap.size from World.block_lt_of_cell? w1 _ q1)
              have HY1 := hide (k1.step hb1)
              have HX := hide (Blk.new w1 #[.int .i64 0, .nilFunc] 53)
              have HY := hide ((k1.step hb1).step (kl_alloc w1 (.cells #[.int .i64 0, .nilFunc] 53))))
         clear hK1 hb1)
      | fail)
    all_goals go_wp2
    all_goals go_meet
    all_goals first
      | exact ⟨rfl, _, rfl, Blk.new w1 _ _, HY1.out.step (kl_alloc w1 _)⟩
      | exact ⟨rfl, _, rfl, HX.out.set 1 _, HY.out.set HQ.out 1 HG.out _⟩
      | exact ⟨rfl, _, rfl, (HX.out.set 0 _).set 1 _, (HY.out.set HQ.out 0 HG.out _).set HQ.out 1 HG.out _⟩
  case rest =>
    obtain ⟨rfl, g, rfl, hG, hKp⟩ := hcut
    have hb2 : Below w.heap.size w wc := hKp.2
    have HFI := hide (isFile_any wc no 1 links size t ev rv es rs (HE.out.below hb2) (HR.out.below hb2))
    have c0 : wc.cell? ⟨B, 0, none⟩ = some (.int .i64 no) := hKp.1.cell 0
    have c2 : wc.cell? ⟨B, 2, none⟩ = some (.int .i64 links) := hKp.1.cell 2
    have g1 : wc.cell? ⟨g, 1, none⟩ = some (.func (.func 33) #[] #[]) := hG.cell 1
    have c1' : wc.cell? ⟨B, 1, none⟩ = some (.int .i64 1) := hKp.1.cell 1
    have c3 : wc.cell? ⟨B, 3, none⟩ = some (.int .i64 size) := hKp.1.cell 3
    have c4 : wc.cell? ⟨B, 4, none⟩ = some (.string t) := hKp.1.cell 4
    have c5 : wc.cell? ⟨B, 5, none⟩ = some ev := hKp.1.cell 5
    have c6 : wc.cell? ⟨B, 6, none⟩ = some rv := hKp.1.cell 6
    have HB := hide hb2
    clear hG hKp HK c1 hlt hb2
    by_cases n0 : 0 < no
    · by_cases l0 : 0 ≤ links
      · by_cases l1 : links ≤ 100
        · have HF := hide (HI.out.trans (by rw [decide_eq_true n0, decide_eq_true l0, decide_eq_true l1, Bool.true_and, Bool.true_and, Bool.true_and]))
          go_wp2_with fail
          refine HFI.out.mono ?_
          rintro e w3 ⟨rfl, hb3⟩
          have HB3 := hide (kl_step hb3 HB.out)
          clear c0 c1' c2 c3 c4 c5 c6 g1 hb3
          go_wp2
          go_ret
          exact ⟨ret_one (congrArg Value.bool HF.out.symm), HB3.out⟩
        · have HF := hide (HI.out.trans (by rw [decide_eq_true n0, decide_eq_true l0, decide_eq_false l1, Bool.true_and, Bool.true_and, Bool.false_and]))
          have l1' : 100 < links := by omega
          clear l1
          go_wp2
          go_ret
          exact ⟨ret_one (congrArg Value.bool HF.out.symm), HB.out⟩
      · have HF := hide (HI.out.trans (by rw [decide_eq_true n0, decide_eq_false l0, Bool.true_and, Bool.false_and]))
        have l0' : links < 0 := by omega
        clear l0
        go_wp2
        go_ret
        exact ⟨ret_one (congrArg Value.bool HF.out.symm), HB.out⟩
    · have HF := hide (HI.out.trans (by rw [decide_eq_false n0, Bool.false_and]))
      have n0' : no ≤ 0 := by omega
      clear n0
      go_wp2
      go_ret
      exact ⟨ret_one (congrArg Value.bool HF.out.symm), HB.out⟩

set_option maxHeartbeats 4000000 in
theorem RightI_2 (w : World) (no links size : Int) (t : ByteArray) (ev rv : Value) (es : List En) (rs : List Rn) (ht : t.size ≤ maxLen) (he : ERow w ev es) (hr : RRow w rv rs) :
    Calls Try.prog 11 #[.agg #[.int .i64 no, .int .i64 2, .int .i64 links, .int .i64 size, .string t, ev, rv]] w (SaysB (rightI ⟨no, 2, links, size, t, es, rs⟩) w) := by
  obtain ⟨w0, hw0⟩ : ∃ W, W = w.alloc (.cells #[.int .i64 no, .int .i64 2, .int .i64 links, .int .i64 size, .string t, ev, rv] 25) := ⟨_, rfl⟩
  have HK := hide (show KeepF w w.heap.size #[.int .i64 no, .int .i64 2, .int .i64 links, .int .i64 size, .string t, ev, rv] w0 from ⟨by rw [hw0]; exact Blk.new w _ _, by rw [hw0]; exact kl_alloc w _⟩)
  have c1 : w0.cell? ⟨w.heap.size, 1, none⟩ = some (.int .i64 2) := HK.out.1.cell 1
  have hlt : w.heap.size < w0.heap.size := HK.out.1.lt
  have HI : Hid (rightI ⟨no, 2, links, size, t, es, rs⟩ = (decide (0 < no) && (decide (0 ≤ links) && (decide (links ≤ 100) && rightDir ⟨no, 2, links, size, t, es, rs⟩)))) := hide rfl
  have HE := hide he
  have HR := hide hr
  clear he hr
  go_enter Try.func11, Try.ntmps11
  go_upto_region 1 with fail
  rw [← hw0]
  clear hw0
  generalize hB : w.heap.size = B at *
  have HQ := hide hB
  clear hB
  go_cut [3, 4] (fun p c wx => c = .bool true ∧ ∃ g, p = .pointer (some ⟨g, 0, none⟩) ∧ Blk wx g #[.int .i64 1, (.func (.func 34) #[] #[])] 53 ∧ KeepF w B #[.int .i64 no, .int .i64 2, .int .i64 links, .int .i64 size, .string t, ev, rv] wx)
  case first =>
    have k1 : KeepF w B _ w0.drew := HK.out.step (kl_drew w0)
    have k2 : KeepF w B _ (w0.alloc (.cells #[.int .i64 0, .nilFunc] 53)).drew := (HK.out.step (kl_alloc w0 _)).step (kl_drew _)
    have d1 : w0.drew.cell? ⟨B, 1, none⟩ = some (.int .i64 2) := k1.1.cell 1
    have d2 : (w0.alloc (.cells #[.int .i64 0, .nilFunc] 53)).drew.cell? ⟨B, 1, none⟩ = some (.int .i64 2) := k2.1.cell 1
    have HZ := hide (kl_blk (kl_drew _) (Blk.new w0 #[.int .i64 0, .nilFunc] 53))
    have HZK := hide k2
    have z0 : (w0.alloc (.cells #[.int .i64 0, .nilFunc] 53)).drew.cell? ⟨w0.heap.size, 0, none⟩ = some (.int .i64 0) := HZ.out.cell 0
    have z1 : (w0.alloc (.cells #[.int .i64 0, .nilFunc] 53)).drew.cell? ⟨w0.heap.size, 1, none⟩ = some .nilFunc := HZ.out.cell 1
    go_region_with (first
      | (go_at_call 21; refine (forms_some _).mono ?_; rintro e w1 ⟨b, rfl, hK1, hb1⟩
         first
           | (have q1 := kl_cell hb1 d2
              have q2 := kl_cell hb1 z0
              have q3 := kl_cell hb1 z1
              have q4 := (kl_blk hb1 HZ.out).frozen 0
              have q5 := (kl_blk hb1 HZ.out).frozen 1
              have q6 := look_1 hK1 2 (by decide) _ _ (kindsF_2)
              have HG := hide hlt
              have HX := hide (kl_blk hb1 HZ.out)
              have HY := hide (HZK.out.step hb1))
           | (have q1 := kl_cell hb1 d1
              have q2 := kl_cell (kl_alloc w1 (.cells #[.int .i64 0, .nilFunc] 53)) q1
              have q4 := (Blk.new w1 #[.int .i64 0, .nilFunc] 53).frozen 0
              have q5 := (Blk.new w1 #[.int .i64 0, .nilFunc] 53).frozen 1
              have q6 : (w1.alloc (.cells #[.int .i64 0, .nilFunc] 53)).cell? ⟨w1.heap.size, 0, none⟩ = some (.int .i64 0) := (Blk.new w1 #[.int .i64 0, .nilFunc] 53).cell 0
              have q7 : (w1.alloc (.cells #[.int .i64 0, .nilFunc] 53)).cell? ⟨w1.heap.size, 1, none⟩ = some .nilFunc := (Blk.new w1 #[.int .i64 0, .nilFunc] 53).cell 1
              have q8 := look_1 hK1 2 (by decide) _ _ (kindsF_2)
              have q9 := look_1 (hK1.below (kl_alloc w1 (.cells #[.int .i64 0, .nilFunc] 53))) 2 (by decide) _ _ (kindsF_2)
              have HG := hide (show B < w1.heap.size from World.block_lt_of_cell? w1 _ q1)
              have HY1 := hide (k1.step hb1)
              have HX := hide (Blk.new w1 #[.int .i64 0, .nilFunc] 53)
              have HY := hide ((k1.step hb1).step (kl_alloc w1 (.cells #[.int .i64 0, .nilFunc] 53))))
         clear hK1 hb1)
      | fail)
    all_goals go_wp2
    all_goals go_meet
    all_goals first
      | exact ⟨rfl, _, rfl, Blk.new w1 _ _, HY1.out.step (kl_alloc w1 _)⟩
      | exact ⟨rfl, _, rfl, HX.out.set 1 _, HY.out.set HQ.out 1 HG.out _⟩
      | exact ⟨rfl, _, rfl, (HX.out.set 0 _).set 1 _, (HY.out.set HQ.out 0 HG.out _).set HQ.out 1 HG.out _⟩
  case rest =>
    obtain ⟨rfl, g, rfl, hG, hKp⟩ := hcut
    have hb2 : Below w.heap.size w wc := hKp.2
    have HFI := hide (isDir_any wc no 2 links size t ev rv es rs (HE.out.below hb2) (HR.out.below hb2))
    have c0 : wc.cell? ⟨B, 0, none⟩ = some (.int .i64 no) := hKp.1.cell 0
    have c2 : wc.cell? ⟨B, 2, none⟩ = some (.int .i64 links) := hKp.1.cell 2
    have g1 : wc.cell? ⟨g, 1, none⟩ = some (.func (.func 34) #[] #[]) := hG.cell 1
    have c1' : wc.cell? ⟨B, 1, none⟩ = some (.int .i64 2) := hKp.1.cell 1
    have c3 : wc.cell? ⟨B, 3, none⟩ = some (.int .i64 size) := hKp.1.cell 3
    have c4 : wc.cell? ⟨B, 4, none⟩ = some (.string t) := hKp.1.cell 4
    have c5 : wc.cell? ⟨B, 5, none⟩ = some ev := hKp.1.cell 5
    have c6 : wc.cell? ⟨B, 6, none⟩ = some rv := hKp.1.cell 6
    have HB := hide hb2
    clear hG hKp HK c1 hlt hb2
    by_cases n0 : 0 < no
    · by_cases l0 : 0 ≤ links
      · by_cases l1 : links ≤ 100
        · have HF := hide (HI.out.trans (by rw [decide_eq_true n0, decide_eq_true l0, decide_eq_true l1, Bool.true_and, Bool.true_and, Bool.true_and]))
          go_wp2_with fail
          refine HFI.out.mono ?_
          rintro e w3 ⟨rfl, hb3⟩
          have HB3 := hide (kl_step hb3 HB.out)
          clear c0 c1' c2 c3 c4 c5 c6 g1 hb3
          go_wp2
          go_ret
          exact ⟨ret_one (congrArg Value.bool HF.out.symm), HB3.out⟩
        · have HF := hide (HI.out.trans (by rw [decide_eq_true n0, decide_eq_true l0, decide_eq_false l1, Bool.true_and, Bool.true_and, Bool.false_and]))
          have l1' : 100 < links := by omega
          clear l1
          go_wp2
          go_ret
          exact ⟨ret_one (congrArg Value.bool HF.out.symm), HB.out⟩
      · have HF := hide (HI.out.trans (by rw [decide_eq_true n0, decide_eq_false l0, Bool.true_and, Bool.false_and]))
        have l0' : links < 0 := by omega
        clear l0
        go_wp2
        go_ret
        exact ⟨ret_one (congrArg Value.bool HF.out.symm), HB.out⟩
    · have HF := hide (HI.out.trans (by rw [decide_eq_false n0, Bool.false_and]))
      have n0' : no ≤ 0 := by omega
      clear n0
      go_wp2
      go_ret
      exact ⟨ret_one (congrArg Value.bool HF.out.symm), HB.out⟩

set_option maxHeartbeats 4000000 in
theorem RightI_3 (w : World) (no links size : Int) (t : ByteArray) (ev rv : Value) (es : List En) (rs : List Rn) (ht : t.size ≤ maxLen) (he : ERow w ev es) (hr : RRow w rv rs) :
    Calls Try.prog 11 #[.agg #[.int .i64 no, .int .i64 3, .int .i64 links, .int .i64 size, .string t, ev, rv]] w (SaysB (rightI ⟨no, 3, links, size, t, es, rs⟩) w) := by
  obtain ⟨w0, hw0⟩ : ∃ W, W = w.alloc (.cells #[.int .i64 no, .int .i64 3, .int .i64 links, .int .i64 size, .string t, ev, rv] 25) := ⟨_, rfl⟩
  have HK := hide (show KeepF w w.heap.size #[.int .i64 no, .int .i64 3, .int .i64 links, .int .i64 size, .string t, ev, rv] w0 from ⟨by rw [hw0]; exact Blk.new w _ _, by rw [hw0]; exact kl_alloc w _⟩)
  have c1 : w0.cell? ⟨w.heap.size, 1, none⟩ = some (.int .i64 3) := HK.out.1.cell 1
  have hlt : w.heap.size < w0.heap.size := HK.out.1.lt
  have HI : Hid (rightI ⟨no, 3, links, size, t, es, rs⟩ = (decide (0 < no) && (decide (0 ≤ links) && (decide (links ≤ 100) && rightLink ⟨no, 3, links, size, t, es, rs⟩)))) := hide rfl
  have HE := hide he
  have HR := hide hr
  clear he hr
  go_enter Try.func11, Try.ntmps11
  go_upto_region 1 with fail
  rw [← hw0]
  clear hw0
  generalize hB : w.heap.size = B at *
  have HQ := hide hB
  clear hB
  go_cut [3, 4] (fun p c wx => c = .bool true ∧ ∃ g, p = .pointer (some ⟨g, 0, none⟩) ∧ Blk wx g #[.int .i64 0, (.func (.func 35) #[] #[])] 53 ∧ KeepF w B #[.int .i64 no, .int .i64 3, .int .i64 links, .int .i64 size, .string t, ev, rv] wx)
  case first =>
    have k1 : KeepF w B _ w0.drew := HK.out.step (kl_drew w0)
    have k2 : KeepF w B _ (w0.alloc (.cells #[.int .i64 0, .nilFunc] 53)).drew := (HK.out.step (kl_alloc w0 _)).step (kl_drew _)
    have d1 : w0.drew.cell? ⟨B, 1, none⟩ = some (.int .i64 3) := k1.1.cell 1
    have d2 : (w0.alloc (.cells #[.int .i64 0, .nilFunc] 53)).drew.cell? ⟨B, 1, none⟩ = some (.int .i64 3) := k2.1.cell 1
    have HZ := hide (kl_blk (kl_drew _) (Blk.new w0 #[.int .i64 0, .nilFunc] 53))
    have HZK := hide k2
    have z0 : (w0.alloc (.cells #[.int .i64 0, .nilFunc] 53)).drew.cell? ⟨w0.heap.size, 0, none⟩ = some (.int .i64 0) := HZ.out.cell 0
    have z1 : (w0.alloc (.cells #[.int .i64 0, .nilFunc] 53)).drew.cell? ⟨w0.heap.size, 1, none⟩ = some .nilFunc := HZ.out.cell 1
    go_region_with (first
      | (go_at_call 21; refine (forms_some _).mono ?_; rintro e w1 ⟨b, rfl, hK1, hb1⟩
         first
           | (have q1 := kl_cell hb1 d2
              have q2 := kl_cell hb1 z0
              have q3 := kl_cell hb1 z1
              have q4 := (kl_blk hb1 HZ.out).frozen 0
              have q5 := (kl_blk hb1 HZ.out).frozen 1
              have q6 := look_1 hK1 3 (by decide) _ _ (kindsF_3)
              have HG := hide hlt
              have HX := hide (kl_blk hb1 HZ.out)
              have HY := hide (HZK.out.step hb1))
           | (have q1 := kl_cell hb1 d1
              have q2 := kl_cell (kl_alloc w1 (.cells #[.int .i64 0, .nilFunc] 53)) q1
              have q4 := (Blk.new w1 #[.int .i64 0, .nilFunc] 53).frozen 0
              have q5 := (Blk.new w1 #[.int .i64 0, .nilFunc] 53).frozen 1
              have q6 : (w1.alloc (.cells #[.int .i64 0, .nilFunc] 53)).cell? ⟨w1.heap.size, 0, none⟩ = some (.int .i64 0) := (Blk.new w1 #[.int .i64 0, .nilFunc] 53).cell 0
              have q7 : (w1.alloc (.cells #[.int .i64 0, .nilFunc] 53)).cell? ⟨w1.heap.size, 1, none⟩ = some .nilFunc := (Blk.new w1 #[.int .i64 0, .nilFunc] 53).cell 1
              have q8 := look_1 hK1 3 (by decide) _ _ (kindsF_3)
              have q9 := look_1 (hK1.below (kl_alloc w1 (.cells #[.int .i64 0, .nilFunc] 53))) 3 (by decide) _ _ (kindsF_3)
              have HG := hide (show B < w1.heap.size from World.block_lt_of_cell? w1 _ q1)
              have HY1 := hide (k1.step hb1)
              have HX := hide (Blk.new w1 #[.int .i64 0, .nilFunc] 53)
              have HY := hide ((k1.step hb1).step (kl_alloc w1 (.cells #[.int .i64 0, .nilFunc] 53))))
         clear hK1 hb1)
      | fail)
    all_goals go_wp2
    all_goals go_meet
    all_goals first
      | exact ⟨rfl, _, rfl, Blk.new w1 _ _, HY1.out.step (kl_alloc w1 _)⟩
      | exact ⟨rfl, _, rfl, HX.out.set 1 _, HY.out.set HQ.out 1 HG.out _⟩
      | exact ⟨rfl, _, rfl, (HX.out.set 0 _).set 1 _, (HY.out.set HQ.out 0 HG.out _).set HQ.out 1 HG.out _⟩
  case rest =>
    obtain ⟨rfl, g, rfl, hG, hKp⟩ := hcut
    have hb2 : Below w.heap.size w wc := hKp.2
    have HFI := hide (isLink_any wc no 3 links size t ev rv es rs ht (HE.out.below hb2) (HR.out.below hb2))
    have c0 : wc.cell? ⟨B, 0, none⟩ = some (.int .i64 no) := hKp.1.cell 0
    have c2 : wc.cell? ⟨B, 2, none⟩ = some (.int .i64 links) := hKp.1.cell 2
    have g1 : wc.cell? ⟨g, 1, none⟩ = some (.func (.func 35) #[] #[]) := hG.cell 1
    have c1' : wc.cell? ⟨B, 1, none⟩ = some (.int .i64 3) := hKp.1.cell 1
    have c3 : wc.cell? ⟨B, 3, none⟩ = some (.int .i64 size) := hKp.1.cell 3
    have c4 : wc.cell? ⟨B, 4, none⟩ = some (.string t) := hKp.1.cell 4
    have c5 : wc.cell? ⟨B, 5, none⟩ = some ev := hKp.1.cell 5
    have c6 : wc.cell? ⟨B, 6, none⟩ = some rv := hKp.1.cell 6
    have HB := hide hb2
    clear hG hKp HK c1 hlt hb2
    by_cases n0 : 0 < no
    · by_cases l0 : 0 ≤ links
      · by_cases l1 : links ≤ 100
        · have HF := hide (HI.out.trans (by rw [decide_eq_true n0, decide_eq_true l0, decide_eq_true l1, Bool.true_and, Bool.true_and, Bool.true_and]))
          go_wp2_with fail
          refine HFI.out.mono ?_
          rintro e w3 ⟨rfl, hb3⟩
          have HB3 := hide (kl_step hb3 HB.out)
          clear c0 c1' c2 c3 c4 c5 c6 g1 hb3
          go_wp2
          go_ret
          exact ⟨ret_one (congrArg Value.bool HF.out.symm), HB3.out⟩
        · have HF := hide (HI.out.trans (by rw [decide_eq_true n0, decide_eq_true l0, decide_eq_false l1, Bool.true_and, Bool.true_and, Bool.false_and]))
          have l1' : 100 < links := by omega
          clear l1
          go_wp2
          go_ret
          exact ⟨ret_one (congrArg Value.bool HF.out.symm), HB.out⟩
      · have HF := hide (HI.out.trans (by rw [decide_eq_true n0, decide_eq_false l0, Bool.true_and, Bool.false_and]))
        have l0' : links < 0 := by omega
        clear l0
        go_wp2
        go_ret
        exact ⟨ret_one (congrArg Value.bool HF.out.symm), HB.out⟩
    · have HF := hide (HI.out.trans (by rw [decide_eq_false n0, Bool.false_and]))
      have n0' : no ≤ 0 := by omega
      clear n0
      go_wp2
      go_ret
      exact ⟨ret_one (congrArg Value.bool HF.out.symm), HB.out⟩

set_option maxHeartbeats 4000000 in
theorem RightI_0 (w : World) (no kind links size : Int) (t : ByteArray) (ev rv : Value) (es : List En) (rs : List Rn) (ht : t.size ≤ maxLen) (he : ERow w ev es) (hr : RRow w rv rs) (hk : (Lit.int .i64 kind).wf = true) (m1 : kind ≠ 1) (m2 : kind ≠ 2) (m3 : kind ≠ 3) :
    Calls Try.prog 11 #[.agg #[.int .i64 no, .int .i64 kind, .int .i64 links, .int .i64 size, .string t, ev, rv]] w (SaysB (rightI ⟨no, kind, links, size, t, es, rs⟩) w) := by
  obtain ⟨w0, hw0⟩ : ∃ W, W = w.alloc (.cells #[.int .i64 no, .int .i64 kind, .int .i64 links, .int .i64 size, .string t, ev, rv] 25) := ⟨_, rfl⟩
  have HK := hide (show KeepF w w.heap.size #[.int .i64 no, .int .i64 kind, .int .i64 links, .int .i64 size, .string t, ev, rv] w0 from ⟨by rw [hw0]; exact Blk.new w _ _, by rw [hw0]; exact kl_alloc w _⟩)
  have c1 : w0.cell? ⟨w.heap.size, 1, none⟩ = some (.int .i64 kind) := HK.out.1.cell 1
  have hlt : w.heap.size < w0.heap.size := HK.out.1.lt
  have HF := hide (show rightI ⟨no, kind, links, size, t, es, rs⟩ = false from rightI_bad m1 m2 m3)
  have HE := hide he
  have HR := hide hr
  clear he hr
  go_enter Try.func11, Try.ntmps11
  go_upto_region 1 with fail
  rw [← hw0]
  clear hw0
  generalize hB : w.heap.size = B at *
  have HQ := hide hB
  clear hB
  go_cut [3, 4] (fun p c wx => c = .bool false ∧ ∃ g, p = .pointer (some ⟨g, 0, none⟩) ∧ Blk wx g #[.int .i64 0, .nilFunc] 53 ∧ KeepF w B #[.int .i64 no, .int .i64 kind, .int .i64 links, .int .i64 size, .string t, ev, rv] wx)
  case first =>
    have k1 : KeepF w B _ w0.drew := HK.out.step (kl_drew w0)
    have k2 : KeepF w B _ (w0.alloc (.cells #[.int .i64 0, .nilFunc] 53)).drew := (HK.out.step (kl_alloc w0 _)).step (kl_drew _)
    have d1 : w0.drew.cell? ⟨B, 1, none⟩ = some (.int .i64 kind) := k1.1.cell 1
    have d2 : (w0.alloc (.cells #[.int .i64 0, .nilFunc] 53)).drew.cell? ⟨B, 1, none⟩ = some (.int .i64 kind) := k2.1.cell 1
    have HZ := hide (kl_blk (kl_drew _) (Blk.new w0 #[.int .i64 0, .nilFunc] 53))
    have HZK := hide k2
    have z0 : (w0.alloc (.cells #[.int .i64 0, .nilFunc] 53)).drew.cell? ⟨w0.heap.size, 0, none⟩ = some (.int .i64 0) := HZ.out.cell 0
    have z1 : (w0.alloc (.cells #[.int .i64 0, .nilFunc] 53)).drew.cell? ⟨w0.heap.size, 1, none⟩ = some .nilFunc := HZ.out.cell 1
    go_region_with (first
      | (go_at_call 21; refine (forms_some _).mono ?_; rintro e w1 ⟨b, rfl, hK1, hb1⟩
         first
           | (have q1 := kl_cell hb1 d2
              have q2 := kl_cell hb1 z0
              have q3 := kl_cell hb1 z1
              have q4 := (kl_blk hb1 HZ.out).frozen 0
              have q5 := (kl_blk hb1 HZ.out).frozen 1
              have q6 := look_1 hK1 kind hk _ _ (kindsF_0 m1 m2 m3)
              have HG := hide hlt
              have HX := hide (kl_blk hb1 HZ.out)
              have HY := hide (HZK.out.step hb1))
           | (have q1 := kl_cell hb1 d1
              have q2 := kl_cell (kl_alloc w1 (.cells #[.int .i64 0, .nilFunc] 53)) q1
              have q4 := (Blk.new w1 #[.int .i64 0, .nilFunc] 53).frozen 0
              have q5 := (Blk.new w1 #[.int .i64 0, .nilFunc] 53).frozen 1
              have q6 : (w1.alloc (.cells #[.int .i64 0, .nilFunc] 53)).cell? ⟨w1.heap.size, 0, none⟩ = some (.int .i64 0) := (Blk.new w1 #[.int .i64 0, .nilFunc] 53).cell 0
              have q7 : (w1.alloc (.cells #[.int .i64 0, .nilFunc] 53)).cell? ⟨w1.heap.size, 1, none⟩ = some .nilFunc := (Blk.new w1 #[.int .i64 0, .nilFunc] 53).cell 1
              have q8 := look_1 hK1 kind hk _ _ (kindsF_0 m1 m2 m3)
              have q9 := look_1 (hK1.below (kl_alloc w1 (.cells #[.int .i64 0, .nilFunc] 53))) kind hk _ _ (kindsF_0 m1 m2 m3)
              have HG := hide (show B < w1.heap.size from World.block_lt_of_cell? w1 _ q1)
              have HY1 := hide (k1.step hb1)
              have HX := hide (Blk.new w1 #[.int .i64 0, .nilFunc] 53)
              have HY := hide ((k1.step hb1).step (kl_alloc w1 (.cells #[.int .i64 0, .nilFunc] 53))))
         clear hK1 hb1)
      | fail)
    all_goals go_wp2
    all_goals go_meet
    all_goals first
      | exact ⟨congrArg Value.bool (by rw [kindsF_no m1 m2 m3]; rfl), _, rfl, Blk.new w1 _ _, HY1.out.step (kl_alloc w1 _)⟩
      | exact ⟨congrArg Value.bool (by rw [kindsF_no m1 m2 m3]; rfl), _, rfl, HX.out.set 1 _, HY.out.set HQ.out 1 HG.out _⟩
      | exact ⟨congrArg Value.bool (by rw [kindsF_no m1 m2 m3]; rfl), _, rfl, (HX.out.set 0 _).set 1 _, (HY.out.set HQ.out 0 HG.out _).set HQ.out 1 HG.out _⟩
  case rest =>
    obtain ⟨rfl, g, rfl, hG, hKp⟩ := hcut
    have hb2 : Below w.heap.size w wc := hKp.2
    clear hG hKp HK c1 hlt
    go_wp2
    go_ret
    exact ⟨ret_one (congrArg Value.bool HF.out.symm), hb2⟩

theorem RightI_any (w : World) (no kind links size : Int) (t : ByteArray) (ev rv : Value) (es : List En) (rs : List Rn) (hk : (Lit.int .i64 kind).wf = true) (ht : t.size ≤ maxLen) (he : ERow w ev es) (hr : RRow w rv rs) :
    Calls Try.prog 11 #[.agg #[.int .i64 no, .int .i64 kind, .int .i64 links, .int .i64 size, .string t, ev, rv]] w (SaysB (rightI ⟨no, kind, links, size, t, es, rs⟩) w) := by
  by_cases k1 : kind = 1
  · subst k1; exact RightI_1 w no links size t ev rv es rs ht he hr
  · by_cases k2 : kind = 2
    · subst k2; exact RightI_2 w no links size t ev rv es rs ht he hr
    · by_cases k3 : kind = 3
      · subst k3; exact RightI_3 w no links size t ev rv es rs ht he hr
      · exact RightI_0 w no kind links size t ev rv es rs ht he hr hk k1 k2 k3
end Go.Proofs.Ytlfodhffecadoaa
