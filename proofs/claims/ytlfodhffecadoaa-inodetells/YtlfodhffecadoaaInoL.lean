/-
  Inodes: garrethelp's Inode.
-/
import Derived.Test.YtlfodhffecadoaaInoC
import Derived.Test.YtlfodhffecadoaaRunsI
import Derived.Test.YtlfodhffecadoaaEntB
namespace Go.Proofs.Ytlfodhffecadoaa
open Go.RowKit
set_option linter.unusedVariables false
set_option maxRecDepth 100000

def sameI (x y : Ino) : Bool := x.no == y.no && (x.kind == y.kind && (x.links == y.links && (x.size == y.size && (decide (bl x.t = bl y.t) && (decide (x.es = y.es) && decide (x.rs = y.rs))))))
theorem sameI_refl (x : Ino) : sameI x x = true := by simp [sameI]
/-- Both lie there. -/
def TwoI (w0 : World) (A B : Nat) (xs ys : Array Value) (w : World) : Prop := Blk w A xs 25 ∧ Blk w B ys 25 ∧ Below w0.heap.size w0 w
theorem TwoI.step {w0 w w' : World} {A B : Nat} {xs ys : Array Value} (h : TwoI w0 A B xs ys w) (hb : Below w.heap.size w w') : TwoI w0 A B xs ys w' := ⟨kl_blk hb h.1, kl_blk hb h.2.1, kl_step hb h.2.2⟩

set_option maxHeartbeats 8000000 in
theorem SameI_any (w : World) (no kind links size : Int) (t : ByteArray) (ev rv : Value) (es : List En) (rs : List Rn) (no' kind' links' size' : Int) (t' : ByteArray) (ev' rv' : Value) (es' : List En) (rs' : List Rn)
    (he : ERow w ev es) (hr : RRow w rv rs) (he' : ERow w ev' es') (hr' : RRow w rv' rs') :
    Calls Try.prog 8 #[.agg #[.int .i64 no, .int .i64 kind, .int .i64 links, .int .i64 size, .string t, ev, rv], .agg #[.int .i64 no', .int .i64 kind', .int .i64 links', .int .i64 size', .string t', ev', rv']] w
      (SaysB (sameI ⟨no, kind, links, size, t, es, rs⟩ ⟨no', kind', links', size', t', es', rs'⟩) w) := by
  obtain ⟨w0, hw0⟩ : ∃ W, W = w.alloc (.cells #[.int .i64 no, .int .i64 kind, .int .i64 links, .int .i64 size, .string t, ev, rv] 25) := ⟨_, rfl⟩
  have hb0 : Below w.heap.size w w0 := by rw [hw0]; exact kl_alloc w _
  have hB0 : Blk w0 w.heap.size #[.int .i64 no, .int .i64 kind, .int .i64 links, .int .i64 size, .string t, ev, rv] 25 := by rw [hw0]; exact Blk.new w _ _
  have hsz : w0.heap.size = w.heap.size + 1 := by rw [hw0]; simp
  obtain ⟨V, hV⟩ : ∃ W, W = w0.alloc (.cells #[.int .i64 no', .int .i64 kind', .int .i64 links', .int .i64 size', .string t', ev', rv'] 25) := ⟨_, rfl⟩
  have hb1 : Below w0.heap.size w0 V := by rw [hV]; exact kl_alloc w0 _
  have hB1 : Blk V (w.heap.size + 1) #[.int .i64 no', .int .i64 kind', .int .i64 links', .int .i64 size', .string t', ev', rv'] 25 := by rw [hV, ← hsz]; exact Blk.new w0 _ _
  have HT := hide (show TwoI w w.heap.size (w.heap.size + 1) _ _ V from ⟨kl_blk hb1 hB0, hB1, kl_step hb1 hb0⟩)
  have Hw0 := hide hw0
  have HV := hide hV
  have HE := hide he
  have HR := hide hr
  have HE' := hide he'
  have HR' := hide hr'
  clear hb0 hB0 hsz hb1 hB1 hw0 hV he hr he' hr'
  go_enter Try.func8, Try.ntmps8
  go_upto_region 1 with fail
  rw [← Hw0.out, ← HV.out]
  clear Hw0 HV
  have HI : Hid (sameI ⟨no, kind, links, size, t, es, rs⟩ ⟨no', kind', links', size', t', es', rs'⟩ = (no == no' && (kind == kind' && (links == links' && (size == size' && (decide (bl t = bl t') && (decide (es = es') && decide (rs = rs')))))))) := hide rfl
  generalize hA : w.heap.size = A at *
  have HA := hide hA
  clear hA
  obtain ⟨B, hB⟩ : ∃ B, B = A + 1 := ⟨_, rfl⟩
  rw [← hB] at HT ⊢
  clear hB
  have a0 : V.cell? ⟨A, 0, none⟩ = some (.int .i64 no) := HT.out.1.cell 0
  have b0 : V.cell? ⟨B, 0, none⟩ = some (.int .i64 no') := HT.out.2.1.cell 0
  have a1 : V.cell? ⟨A, 1, none⟩ = some (.int .i64 kind) := HT.out.1.cell 1
  have b1 : V.cell? ⟨B, 1, none⟩ = some (.int .i64 kind') := HT.out.2.1.cell 1
  have a2 : V.cell? ⟨A, 2, none⟩ = some (.int .i64 links) := HT.out.1.cell 2
  have b2 : V.cell? ⟨B, 2, none⟩ = some (.int .i64 links') := HT.out.2.1.cell 2
  have a3 : V.cell? ⟨A, 3, none⟩ = some (.int .i64 size) := HT.out.1.cell 3
  have b3 : V.cell? ⟨B, 3, none⟩ = some (.int .i64 size') := HT.out.2.1.cell 3
  have a4 : V.cell? ⟨A, 4, none⟩ = some (.string t) := HT.out.1.cell 4
  have b4 : V.cell? ⟨B, 4, none⟩ = some (.string t') := HT.out.2.1.cell 4
  have a5 : V.cell? ⟨A, 5, none⟩ = some ev := HT.out.1.cell 5
  have b5 : V.cell? ⟨B, 5, none⟩ = some ev' := HT.out.2.1.cell 5
  by_cases qno : no = no'
  case neg =>
    have eno : (no == no') = false := by simpa using qno
    have HF := hide (HI.out.trans (by rw [eno]))
    clear qno
    go_wp2
    go_ret
    exact ⟨ret_one (congrArg Value.bool HF.out.symm), HT.out.2.2⟩
  have eno : (no == no') = true := by simpa using qno
  clear qno
  by_cases qkind : kind = kind'
  case neg =>
    have ekind : (kind == kind') = false := by simpa using qkind
    have HF := hide (HI.out.trans (by rw [eno, ekind]))
    clear qkind
    go_wp2
    go_ret
    exact ⟨ret_one (congrArg Value.bool HF.out.symm), HT.out.2.2⟩
  have ekind : (kind == kind') = true := by simpa using qkind
  clear qkind
  by_cases qlinks : links = links'
  case neg =>
    have elinks : (links == links') = false := by simpa using qlinks
    have HF := hide (HI.out.trans (by rw [eno, ekind, elinks]))
    clear qlinks
    go_wp2
    go_ret
    exact ⟨ret_one (congrArg Value.bool HF.out.symm), HT.out.2.2⟩
  have elinks : (links == links') = true := by simpa using qlinks
  clear qlinks
  by_cases qsize : size = size'
  case neg =>
    have esize : (size == size') = false := by simpa using qsize
    have HF := hide (HI.out.trans (by rw [eno, ekind, elinks, esize]))
    clear qsize
    go_wp2
    go_ret
    exact ⟨ret_one (congrArg Value.bool HF.out.symm), HT.out.2.2⟩
  have esize : (size == size') = true := by simpa using qsize
  clear qsize
  have hsb := same_bl t t'
  by_cases qt : bl t = bl t'
  case neg =>
    rw [decide_eq_false qt] at hsb
    have HF := hide (HI.out.trans (by rw [eno, ekind, elinks, esize, decide_eq_false qt]))
    clear qt
    go_wp2
    go_ret
    exact ⟨ret_one (congrArg Value.bool HF.out.symm), HT.out.2.2⟩
  rw [decide_eq_true qt] at hsb
  have HI2 := hide (HI.out.trans (by rw [eno, ekind, elinks, esize, decide_eq_true qt, Bool.true_and, Bool.true_and, Bool.true_and, Bool.true_and, Bool.true_and]))
  clear qt HI
  go_wp2_with fail
  refine (PlainE_any V ev ev' es es' (HE.out.below HT.out.2.2) (HE'.out.below HT.out.2.2)).mono ?_
  rintro e w5 ⟨rfl, hb5⟩
  have HT5 := hide (HT.out.step hb5)
  clear a0 b0 a1 b1 a2 b2 a3 b3 a4 b4 a5 b5 hb5 HT
  generalize decide (es = es') = p at *
  have a6 : w5.cell? ⟨A, 6, none⟩ = some rv := HT5.out.1.cell 6
  have b6 : w5.cell? ⟨B, 6, none⟩ = some rv' := HT5.out.2.1.cell 6
  cases p with
  | false =>
    go_wp2
    go_ret
    exact ⟨ret_one (congrArg Value.bool HI2.out.symm), HT5.out.2.2⟩
  | true =>
    go_wp2_with fail
    refine (PlainR_any w5 rv rv' rs rs' (HR.out.below HT5.out.2.2) (HR'.out.below HT5.out.2.2)).mono ?_
    rintro e w6 ⟨rfl, hb6⟩
    have HT6 := hide (HT5.out.step hb6)
    clear a6 b6 hb6 HT5
    go_wp2
    go_ret
    exact ⟨ret_one (congrArg Value.bool HI2.out.symm), HT6.out.2.2⟩
end Go.Proofs.Ytlfodhffecadoaa
