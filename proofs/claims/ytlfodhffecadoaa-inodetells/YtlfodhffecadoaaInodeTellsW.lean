/-
  InodeTells: its walk.
-/
import Derived.Deep.RegionHeld3
import Derived.Test.YtlfodhffecadoaaAwake12
import Derived.Test.YtlfodhffecadoaaInoD
import Derived.Test.YtlfodhffecadoaaInoK
import Derived.Test.YtlfodhffecadoaaInoL
import Derived.Test.YtlfodhffecadoaaInoM
import Derived.Test.YtlfodhffecadoaaInoX
namespace Go.Proofs.Ytlfodhffecadoaa
open Go.RowKit
set_option linter.unusedVariables false
set_option maxRecDepth 100000

/-- What the region keeps. -/
def SevS (w0 : World) (B : Nat) (a b c d : Int) (t : ByteArray) (ev rv : Value) (w' : World) : Prop :=
  (w'.cell? ⟨B, 0, none⟩ = some (.int .i64 a) ∧ w'.cell? ⟨B, 1, none⟩ = some (.int .i64 b) ∧ w'.cell? ⟨B, 2, none⟩ = some (.int .i64 c) ∧ w'.cell? ⟨B, 3, none⟩ = some (.int .i64 d) ∧
    w'.cell? ⟨B, 4, none⟩ = some (.string t) ∧ w'.cell? ⟨B, 5, none⟩ = some ev ∧ w'.cell? ⟨B, 6, none⟩ = some rv) ∧ Below w0.heap.size w0 w'
theorem SevS.step {w0 : World} {B : Nat} {a b c d : Int} {t : ByteArray} {ev rv : Value} {w w' : World} (hb : Below w.heap.size w w') (h : SevS w0 B a b c d t ev rv w) : SevS w0 B a b c d t ev rv w' :=
  ⟨⟨kl_cell hb h.1.1, kl_cell hb h.1.2.1, kl_cell hb h.1.2.2.1, kl_cell hb h.1.2.2.2.1, kl_cell hb h.1.2.2.2.2.1, kl_cell hb h.1.2.2.2.2.2.1, kl_cell hb h.1.2.2.2.2.2.2⟩, kl_step hb h.2⟩

set_option maxHeartbeats 8000000 in
theorem InodeTells_walk (a0 a1 : Int) (a2 : ByteArray) (no kind links size : Int) (t : ByteArray) (ev rv : Value) (es : List En) (rs : List Rn) (w : World) (w0 : (Lit.int .i64 a0).wf = true) (w1 : (Lit.int .i64 a1).wf = true) (w2 : a2.size ≤ maxLen)
    (w3 : InoOk w no kind links size t ev rv es rs) :
    Calls Try.prog 3 #[.int .i64 a0, .int .i64 a1, .string a2, .agg (icells no kind links size t ev rv)] w fun e w' => e = .returned (.bool true) ∧ Below w.heap.size w w' := by
  obtain ⟨q0, q1, q2, q3, q4, q5, q6⟩ := w3
  unfold icells
  obtain ⟨W, hW⟩ : ∃ W, W = w.alloc (.cells #[.int .i64 no, .int .i64 kind, .int .i64 links, .int .i64 size, .string t, ev, rv] 25) := ⟨_, rfl⟩
  have hb0 : Below w.heap.size w W := by rw [hW]; exact kl_alloc w _
  have hB0 : Blk W w.heap.size #[.int .i64 no, .int .i64 kind, .int .i64 links, .int .i64 size, .string t, ev, rv] 25 := by rw [hW]; exact Blk.new w _ _
  have HS := hide (show SevS w w.heap.size no kind links size t ev rv W from ⟨seven hB0, hb0⟩)
  have hl1 := q5.lenRun
  have hm1 := q5.len
  have hl2 := q6.lenRun
  have hm2 := q6.len
  have h2m : a2.size ≤ maxLen := w2
  have h4m : t.size ≤ maxLen := q4
  unfold maxLen at hm1 hm2 h2m h4m
  have c4 : W.cell? ⟨w.heap.size, 4, none⟩ = some (.string t) := hB0.cell 4
  have c5 : W.cell? ⟨w.heap.size, 5, none⟩ = some ev := hB0.cell 5
  have c6 : W.cell? ⟨w.heap.size, 6, none⟩ = some rv := hB0.cell 6
  have HNW := hide (fun w => New_any w a0 a1 a2 w1 w2)
  have HRN := hide (fun w => RNew_any w a0 a1 a2 w2)
  have HRI := hide (fun (w' : World) (h : SevS w w.heap.size no kind links size t ev rv w') => RightI_any w' no kind links size t ev rv es rs q1 q4 (q5.below h.2) (q6.below h.2))
  have HRR := hide (fun (w' : World) (h : SevS w w.heap.size no kind links size t ev rv w') => RRightI_any w' no kind links size t ev rv es rs q4 (q5.below h.2) (q6.below h.2))
  have HST := hide (fun (w' : World) (h : SevS w w.heap.size no kind links size t ev rv w') => Stat_any w' no kind links size t ev rv es rs (q5.below h.2) (q6.below h.2))
  have HRS := hide (fun (w' : World) (h : SevS w w.heap.size no kind links size t ev rv w') => RStat_any w' no kind links size t ev rv es rs (q5.below h.2) (q6.below h.2))
  have hes : (newI a0 a1 a2).es = [] := rfl
  have hrs : (newI a0 a1 a2).rs = [] := rfl
  generalize rightI ⟨no, kind, links, size, t, es, rs⟩ = ri at *
  generalize statSize ⟨no, kind, links, size, t, es, rs⟩ = sz at *
  generalize pagesOf ⟨no, kind, links, size, t, es, rs⟩ = pg at *
  generalize newI a0 a1 a2 = x at *
  obtain ⟨xn, xk, xl, xs, xt, xe, xr⟩ := x
  unfold SaysI at HNW HRN
  unfold SaysT at HST HRS
  dsimp only at hes hrs HNW HRN
  subst hes hrs
  generalize es.length = le at *
  generalize rs.length = lr at *
  have HSM := hide (fun w => SameI_any w xn xk xl xs xt (.slice none 0 0) (.slice none 0 0) [] [] xn xk xl xs xt (.slice none 0 0) (.slice none 0 0) [] [] (ERow.nil w) (RRow.nil w) (ERow.nil w) (RRow.nil w))
  rw [sameI_refl] at HSM
  clear w0 w1 w2 q0 q1 q2 q3 q4 q5 q6 hb0 hB0
  go_enter Try.func3, Try.ntmps3
  go_upto_region 1 with fail
  rw [← hW]
  clear hW
  generalize hB : w.heap.size = B at *
  have HQ := hide hB
  clear hB
  go_cut [29] (fun s wx => (s = .bool true ∨ s = .bool false) ∧ wx = W)
  case first =>
    by_cases g1 : (500 : Int) < a2.size
    · go_wp2
      go_meet
      exact ⟨.inl rfl, rfl⟩
    by_cases g2 : (500 : Int) < t.size
    · go_wp2
      go_meet
      exact ⟨.inl rfl, rfl⟩
    by_cases g3 : (150 : Int) < le
    · go_wp2
      go_meet
      exact ⟨.inl rfl, rfl⟩
    by_cases g4 : (100 : Int) < lr
    · go_wp2
      go_meet
      exact ⟨.inl rfl, rfl⟩
    · go_wp2
      go_meet
      exact ⟨.inr rfl, rfl⟩
  case rest =>
    obtain ⟨hc, rfl⟩ := hcut
    rcases hc with rfl | rfl
    · go_wp2_with fail
      refine (awake_any wc).mono ?_
      rintro e w3 ⟨rfl, hb3⟩
      have HB3 := hide (kl_step hb3 HS.out.2)
      clear hb3
      go_wp2
      go_ret
      exact ⟨rfl, HB3.out⟩
    · clear c4 c5 c6 hl1 hl2 hm1 hm2 h2m h4m
      go_wp2_with fail
      go_region_held3 (fun w' => (w'.cell? ⟨B, 0, none⟩ = some (.int .i64 no) ∧ w'.cell? ⟨B, 1, none⟩ = some (.int .i64 kind) ∧ w'.cell? ⟨B, 2, none⟩ = some (.int .i64 links) ∧ w'.cell? ⟨B, 3, none⟩ = some (.int .i64 size) ∧
          w'.cell? ⟨B, 4, none⟩ = some (.string t) ∧ w'.cell? ⟨B, 5, none⟩ = some ev ∧ w'.cell? ⟨B, 6, none⟩ = some rv) ∧ Below w.heap.size w w')
        (first
          | assumption
          | exact SevS.step (kl_drew _) HS.out
          | exact SevS.step hb9 (show SevS w B no kind links size t ev rv _ by assumption)
          | fail)
        (first
          | (go_at_call 7; refine (awake_any _).mono ?_; rintro x w9 ⟨rfl, hb9⟩)
          | (go_at_call 9; refine (HNW.out _).mono ?_; rintro x w9 ⟨rfl, hb9⟩)
          | (go_at_call 10; refine (HRN.out _).mono ?_; rintro x w9 ⟨rfl, hb9⟩)
          | (go_at_call 8; refine (HSM.out _).mono ?_; rintro x w9 ⟨rfl, hb9⟩)
          | (go_at_call 11; refine (HRI.out _ (by assumption)).mono ?_; rintro x w9 ⟨rfl, hb9⟩)
          | (go_at_call 12; refine (HRR.out _ (by assumption)).mono ?_; rintro x w9 ⟨rfl, hb9⟩)
          | (go_at_call 13; refine (HST.out _ (by assumption)).mono ?_; rintro x w9 ⟨rfl, hb9⟩)
          | (go_at_call 14; refine (HRS.out _ (by assumption)).mono ?_; rintro x w9 ⟨rfl, hb9⟩)
          | fail)
      have hX : SevS w B no kind links size t ev rv w9 := by assumption
      have HX := hide hX.2
      clear hX hb9
      go_wp2
      go_ret
      exact ⟨rfl, HX.out⟩
end Go.Proofs.Ytlfodhffecadoaa
