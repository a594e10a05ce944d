/-
  garretlaw13's clean: a deed with what its kind has alone.
-/
import Derived.Test.YtgkmgpjhpplkiaaPackX
import Derived.Test.YtgkmgpjhpplkiaaSays
import Derived.Test.YtgkmgpjhpplkiaaIntsI
import Derived.Laws.Rows
import Derived.Deep.CutBlock
import Derived.Deep.DeepCutAuto
namespace Go.Proofs.Ytgkmgpjhpplkiaa
open Go.RowKit
set_option linter.unusedVariables false
set_option maxRecDepth 100000

/-- What 'clean' makes of a deed. -/
def cleanK (k : Int) : Int := 1 + k % 18446744073709551616 % 4
def cleanV (x : Dv) : Dv := if cleanK x.d.kind = 2 then ⟨⟨2, 0, x.d.x⟩, x.ev, x.rv⟩ else ⟨⟨cleanK x.d.kind, x.d.no, noI⟩, .slice none 0 0, .slice none 0 0⟩
def cleanD (d : Dd) : Dd := if cleanK d.kind = 2 then ⟨2, 0, d.x⟩ else ⟨cleanK d.kind, d.no, noI⟩
theorem cleanV_d (x : Dv) : (cleanV x).d = cleanD x.d := by unfold cleanV cleanD; split <;> rfl
theorem cleanK_range (k : Int) : 1 ≤ cleanK k ∧ cleanK k ≤ 4 := by unfold cleanK; omega
theorem cut_4 (c : Int) : wrap64 ((IntKind.u64.wrap c).tmod 4) = cleanK c - 1 := by
  unfold cleanK
  rw [IntKind.wrap_u64, Int.tmod_eq_emod_of_nonneg (Int.emod_nonneg _ (by omega)), IntWalk.wrap64_in _ (by omega)]
  omega
theorem cleanV_wf {x : Dv} (h : x.Wf) : (cleanV x).Wf := by
  unfold cleanV
  have := cleanK_range x.d.kind
  split
  · exact ⟨wf_i64 (by simp) (by simp), wf_i64 (by simp) (by simp), h.xno, h.xkind, h.xlinks, h.xsize, h.t, h.ev, h.rv⟩
  · exact ⟨wf_i64 (by dsimp only; omega) (by dsimp only; omega), h.no, wf_i64 (by simp [noI]) (by simp [noI]), wf_i64 (by simp [noI]) (by simp [noI]), wf_i64 (by simp [noI]) (by simp [noI]), wf_i64 (by simp [noI]) (by simp [noI]), by simp [noI], rfl, rfl⟩
theorem cleanV_reads {w : World} {x : Dv} (h : x.Reads w) : (cleanV x).Reads w := by
  unfold cleanV
  split
  · exact ⟨h.e, h.r⟩
  · exact ⟨ERow.nil w, RRow.nil w⟩
/-- A struct of nine cells, stored whole. -/
theorem blk_over9 {V : World} {B : Nat} {t : TypeId} {z0 z1 z2 z3 z4 z5 z6 z7 z8 : Value} (h : Blk V B #[z0, z1, z2, z3, z4, z5, z6, z7, z8] t) (v0 v1 v2 v3 v4 v5 v6 v7 v8 : Value) :
    Blk (((((((((V.setCell ⟨B, 0, none⟩ v0).setCell ⟨B, 1, none⟩ v1).setCell ⟨B, 2, none⟩ v2).setCell ⟨B, 3, none⟩ v3).setCell ⟨B, 4, none⟩ v4).setCell ⟨B, 5, none⟩ v5).setCell ⟨B, 6, none⟩ v6).setCell ⟨B, 7, none⟩ v7).setCell ⟨B, 8, none⟩ v8) B #[v0, v1, v2, v3, v4, v5, v6, v7, v8] t := by
  have := ((((((((h.set 0 v0).set 1 v1).set 2 v2).set 3 v3).set 4 v4).set 5 v5).set 6 v6).set 7 v7).set 8 v8
  simpa using this
theorem below_over9 {w V : World} {B C : Nat} (h : Below C w V) (hc : C ≤ B) (v0 v1 v2 v3 v4 v5 v6 v7 v8 : Value) :
    Below C w (((((((((V.setCell ⟨B, 0, none⟩ v0).setCell ⟨B, 1, none⟩ v1).setCell ⟨B, 2, none⟩ v2).setCell ⟨B, 3, none⟩ v3).setCell ⟨B, 4, none⟩ v4).setCell ⟨B, 5, none⟩ v5).setCell ⟨B, 6, none⟩ v6).setCell ⟨B, 7, none⟩ v7).setCell ⟨B, 8, none⟩ v8) :=
  ((((((((h.setCell (p := ⟨B, 0, none⟩) hc v0).setCell (p := ⟨B, 1, none⟩) hc v1).setCell (p := ⟨B, 2, none⟩) hc v2).setCell (p := ⟨B, 3, none⟩) hc v3).setCell (p := ⟨B, 4, none⟩) hc v4).setCell (p := ⟨B, 5, none⟩) hc v5).setCell (p := ⟨B, 6, none⟩) hc v6).setCell (p := ⟨B, 7, none⟩) hc v7).setCell (p := ⟨B, 8, none⟩) hc v8

set_option maxHeartbeats 4000000 in
theorem clean_any (w : World) (x : Dv) (h : x.Wf) (hr : x.Reads w) :
    Calls Try.prog 19 #[.agg x.cells.toArray] w fun e w' => e = .returned (.agg (cleanV x).cells.toArray) ∧ Below w.heap.size w w' := by
  obtain ⟨⟨kk, nn, ⟨no, kind, links, size, t, es, rs⟩⟩, ev, rv⟩ := x
  obtain ⟨he, hrr⟩ := hr
  dsimp only at he hrr
  obtain ⟨ea, ec, hev⟩ := he.of_len
  obtain ⟨ra, rc, hrv⟩ := hrr.of_len
  subst hev hrv
  have hcut := cut_4 kk
  have hk := cleanK_range kk
  clear h he hrr
  generalize hO : (cleanV _).cells.toArray = O
  simp only [cleanV] at hO
  generalize es.length = le at *
  generalize rs.length = lr at *
  obtain ⟨m, hm⟩ : ∃ m, cleanK kk = 1 + m := ⟨cleanK kk - 1, by omega⟩
  rw [hm] at hk hcut hO
  have HO := hide hO
  clear hO
  simp only [Dv.cells]
  rw [show 1 + m - 1 = m by omega] at hcut
  clear hm
  obtain ⟨w0, hw0⟩ : ∃ W, W = w.alloc (.cells #[.int .i64 kk, .int .i64 nn, .int .i64 no, .int .i64 kind, .int .i64 links, .int .i64 size, .string t, .slice ea le ec, .slice ra lr rc] 38) := ⟨_, rfl⟩
  have hb0 : Below w.heap.size w w0 := by rw [hw0]; exact kl_alloc w _
  have hB0 : Blk w0 w.heap.size #[.int .i64 kk, .int .i64 nn, .int .i64 no, .int .i64 kind, .int .i64 links, .int .i64 size, .string t, .slice ea le ec, .slice ra lr rc] 38 := by rw [hw0]; exact Blk.new w _ _
  have hsz : w0.heap.size = w.heap.size + 1 := by rw [hw0]; simp
  obtain ⟨V, hV⟩ : ∃ W, W = w0.alloc (.cells #[.int .i64 0, .int .i64 0, .int .i64 0, .int .i64 0, .int .i64 0, .int .i64 0, .string ⟨#[]⟩, .slice none 0 0, .slice none 0 0] 38) := ⟨_, rfl⟩
  have hb1 : Below w0.heap.size w0 V := by rw [hV]; exact kl_alloc w0 _
  have hB1 : Blk V (w.heap.size + 1) #[.int .i64 0, .int .i64 0, .int .i64 0, .int .i64 0, .int .i64 0, .int .i64 0, .string ⟨#[]⟩, .slice none 0 0, .slice none 0 0] 38 := by rw [hV, ← hsz]; exact Blk.new w0 _ _
  have HA := hide (kl_blk hb1 hB0)
  have HR := hide hB1
  have HB := hide (kl_step hb1 hb0)
  clear hb0 hB0 hsz hb1 hB1
  go_enter Try.func19, Try.ntmps19
  go_upto_region 1 with fail
  rw [← hw0, ← hV]
  clear hw0 hV
  generalize hA : w.heap.size = A at *
  have HAE := hide hA
  clear hA
  obtain ⟨R, hR⟩ : ∃ R, R = A + 1 := ⟨_, rfl⟩
  rw [← hR] at HR ⊢
  have hne : R ≠ A := by omega
  have HNE := hide hne
  have HRL := hide (show A ≤ R by omega)
  clear hR hne
  have a0 : V.cell? ⟨A, 0, none⟩ = some (.int .i64 kk) := HA.out.cell 0
  have f0 := HA.out.frozen 0
  have HA1 := hide (show Blk (V.setCell ⟨A, 0, none⟩ (.int .i64 (1 + m))) A #[.int .i64 (1 + m), .int .i64 nn, .int .i64 no, .int .i64 kind, .int .i64 links, .int .i64 size, .string t, .slice ea le ec, .slice ra lr rc] 38 from HA.out.set 0 (.int .i64 (1 + m)))
  have HR1 := hide (HR.out.kept (grown_setCell V A 0 (.int .i64 (1 + m))) (by simpa using HNE.out))
  have HB1 := hide (HB.out.setCell (p := ⟨A, 0, none⟩) (Nat.le_refl _) (.int .i64 (1 + m)))
  clear HA HR HB
  go_upto_region 2 with fail
  generalize V.setCell ⟨A, 0, none⟩ (.int .i64 (1 + m)) = V1 at *
  clear a0 f0 hcut
  generalize 1 + m = j at *
  have b0 : V1.cell? ⟨A, 0, none⟩ = some (.int .i64 (j)) := HA1.out.cell 0
  have b1 : V1.cell? ⟨A, 1, none⟩ = some (.int .i64 nn) := HA1.out.cell 1
  have f1 := HA1.out.frozen 1
  have b2 : V1.cell? ⟨A, 2, none⟩ = some (.int .i64 no) := HA1.out.cell 2
  have f2 := HA1.out.frozen 2
  have b3 : V1.cell? ⟨A, 3, none⟩ = some (.int .i64 kind) := HA1.out.cell 3
  have f3 := HA1.out.frozen 3
  have b4 : V1.cell? ⟨A, 4, none⟩ = some (.int .i64 links) := HA1.out.cell 4
  have f4 := HA1.out.frozen 4
  have b5 : V1.cell? ⟨A, 5, none⟩ = some (.int .i64 size) := HA1.out.cell 5
  have f5 := HA1.out.frozen 5
  have b6 : V1.cell? ⟨A, 6, none⟩ = some (.string t) := HA1.out.cell 6
  have f6 := HA1.out.frozen 6
  have b7 : V1.cell? ⟨A, 7, none⟩ = some (.slice ea le ec) := HA1.out.cell 7
  have f7 := HA1.out.frozen 7
  have b8 : V1.cell? ⟨A, 8, none⟩ = some (.slice ra lr rc) := HA1.out.cell 8
  have f8 := HA1.out.frozen 8
  by_cases hq : j = 2
  · have HP := hide (HO.out.symm.trans (by rw [if_pos hq]))
    subst hq
    have HA2 := hide (show Blk (V1.setCell ⟨A, 1, none⟩ (.int .i64 0)) A #[.int .i64 2, .int .i64 0, .int .i64 no, .int .i64 kind, .int .i64 links, .int .i64 size, .string t, .slice ea le ec, .slice ra lr rc] 38 from HA1.out.set 1 (.int .i64 0))
    have HR2 := hide (HR1.out.kept (grown_setCell V1 A 1 (.int .i64 0)) (by simpa using HNE.out))
    have HB2 := hide (HB1.out.setCell (p := ⟨A, 1, none⟩) (Nat.le_refl _) (.int .i64 0))
    clear HA1 HR1 HB1 HO b2 b3 b4 b5 b6 b7 b8 f2 f3 f4 f5 f6 f7 f8
    go_upto_region 5 with fail
    generalize V1.setCell ⟨A, 1, none⟩ (.int .i64 0) = V2 at *
    clear b0 b1 f1
    have e0 : V2.cell? ⟨A, 0, none⟩ = some (.int .i64 2) := HA2.out.cell 0
    have e1 : V2.cell? ⟨A, 1, none⟩ = some (.int .i64 0) := HA2.out.cell 1
    have e2 : V2.cell? ⟨A, 2, none⟩ = some (.int .i64 no) := HA2.out.cell 2
    have e3 : V2.cell? ⟨A, 3, none⟩ = some (.int .i64 kind) := HA2.out.cell 3
    have e4 : V2.cell? ⟨A, 4, none⟩ = some (.int .i64 links) := HA2.out.cell 4
    have e5 : V2.cell? ⟨A, 5, none⟩ = some (.int .i64 size) := HA2.out.cell 5
    have e6 : V2.cell? ⟨A, 6, none⟩ = some (.string t) := HA2.out.cell 6
    have e7 : V2.cell? ⟨A, 7, none⟩ = some (.slice ea le ec) := HA2.out.cell 7
    have e8 : V2.cell? ⟨A, 8, none⟩ = some (.slice ra lr rc) := HA2.out.cell 8
    have z0 : V2.cell? ⟨R, 0, none⟩ = some (.int .i64 0) := HR2.out.cell 0
    have y0 := HR2.out.frozen 0
    have z1 : V2.cell? ⟨R, 1, none⟩ = some (.int .i64 0) := HR2.out.cell 1
    have y1 := HR2.out.frozen 1
    have z2 : V2.cell? ⟨R, 2, none⟩ = some (.int .i64 0) := HR2.out.cell 2
    have y2 := HR2.out.frozen 2
    have z3 : V2.cell? ⟨R, 3, none⟩ = some (.int .i64 0) := HR2.out.cell 3
    have y3 := HR2.out.frozen 3
    have z4 : V2.cell? ⟨R, 4, none⟩ = some (.int .i64 0) := HR2.out.cell 4
    have y4 := HR2.out.frozen 4
    have z5 : V2.cell? ⟨R, 5, none⟩ = some (.int .i64 0) := HR2.out.cell 5
    have y5 := HR2.out.frozen 5
    have z6 : V2.cell? ⟨R, 6, none⟩ = some (.string ⟨#[]⟩) := HR2.out.cell 6
    have y6 := HR2.out.frozen 6
    have z7 : V2.cell? ⟨R, 7, none⟩ = some (.slice none 0 0) := HR2.out.cell 7
    have y7 := HR2.out.frozen 7
    have z8 : V2.cell? ⟨R, 8, none⟩ = some (.slice none 0 0) := HR2.out.cell 8
    have y8 := HR2.out.frozen 8
    go_wp2
    refine bodyPost_ret (results_cell_row rfl _ _ R 38 _ (0, 0) _ rfl (blk_over9 HR2.out _ _ _ _ _ _ _ _ _) Try.underlying38 rfl (by kernel_rfl)) rfl ⟨by rw [HP.out]; rfl, ?_⟩
    rw [HAE.out]
    exact below_over9 HB2.out HRL.out _ _ _ _ _ _ _ _ _
  · have HP := hide (HO.out.symm.trans (by rw [if_neg hq]))
    have hqb : (j == 2) = false := by simpa using hq
    clear hq
    have HA2 := hide (show Blk (((((((V1.setCell ⟨A, 2, none⟩ (.int .i64 0)).setCell ⟨A, 3, none⟩ (.int .i64 0)).setCell ⟨A, 4, none⟩ (.int .i64 0)).setCell ⟨A, 5, none⟩ (.int .i64 0)).setCell ⟨A, 6, none⟩ (.string ⟨#[]⟩)).setCell ⟨A, 7, none⟩ (.slice none 0 0)).setCell ⟨A, 8, none⟩ (.slice none 0 0)) A #[.int .i64 (j), .int .i64 nn, .int .i64 0, .int .i64 0, .int .i64 0, .int .i64 0, .string ⟨#[]⟩, .slice none 0 0, .slice none 0 0] 38 from (((((((HA1.out.set 2 (.int .i64 0)).set 3 (.int .i64 0)).set 4 (.int .i64 0)).set 5 (.int .i64 0)).set 6 (.string ⟨#[]⟩)).set 7 (.slice none 0 0)).set 8 (.slice none 0 0)))
    have HR2 := hide (((((((HR1.out.kept (grown_setCell _ A 2 (.int .i64 0)) (by simpa using HNE.out)).kept (grown_setCell _ A 3 (.int .i64 0)) (by simpa using HNE.out)).kept (grown_setCell _ A 4 (.int .i64 0)) (by simpa using HNE.out)).kept (grown_setCell _ A 5 (.int .i64 0)) (by simpa using HNE.out)).kept (grown_setCell _ A 6 (.string ⟨#[]⟩)) (by simpa using HNE.out)).kept (grown_setCell _ A 7 (.slice none 0 0)) (by simpa using HNE.out)).kept (grown_setCell _ A 8 (.slice none 0 0)) (by simpa using HNE.out))
    have HB2 := hide (((((((HB1.out.setCell (p := ⟨A, 2, none⟩) (Nat.le_refl _) (.int .i64 0)).setCell (p := ⟨A, 3, none⟩) (Nat.le_refl _) (.int .i64 0)).setCell (p := ⟨A, 4, none⟩) (Nat.le_refl _) (.int .i64 0)).setCell (p := ⟨A, 5, none⟩) (Nat.le_refl _) (.int .i64 0)).setCell (p := ⟨A, 6, none⟩) (Nat.le_refl _) (.string ⟨#[]⟩)).setCell (p := ⟨A, 7, none⟩) (Nat.le_refl _) (.slice none 0 0)).setCell (p := ⟨A, 8, none⟩) (Nat.le_refl _) (.slice none 0 0))
    have HW : Hid (∃ W, W = (((((((V1.setCell ⟨A, 2, none⟩ (.int .i64 0)).setCell ⟨A, 3, none⟩ (.int .i64 0)).setCell ⟨A, 4, none⟩ (.int .i64 0)).setCell ⟨A, 5, none⟩ (.int .i64 0)).setCell ⟨A, 6, none⟩ (.string ⟨#[]⟩)).setCell ⟨A, 7, none⟩ (.slice none 0 0)).setCell ⟨A, 8, none⟩ (.slice none 0 0))) := hide ⟨_, rfl⟩
    clear HA1 HR1 HB1 HO
    go_upto_region 5 with fail
    generalize (((((((V1.setCell ⟨A, 2, none⟩ (.int .i64 0)).setCell ⟨A, 3, none⟩ (.int .i64 0)).setCell ⟨A, 4, none⟩ (.int .i64 0)).setCell ⟨A, 5, none⟩ (.int .i64 0)).setCell ⟨A, 6, none⟩ (.string ⟨#[]⟩)).setCell ⟨A, 7, none⟩ (.slice none 0 0)).setCell ⟨A, 8, none⟩ (.slice none 0 0)) = V2 at *
    clear b0 b1 b2 b3 b4 b5 b6 b7 b8 f1 f2 f3 f4 f5 f6 f7 f8 HW
    have e0 : V2.cell? ⟨A, 0, none⟩ = some (.int .i64 (j)) := HA2.out.cell 0
    have e1 : V2.cell? ⟨A, 1, none⟩ = some (.int .i64 nn) := HA2.out.cell 1
    have e2 : V2.cell? ⟨A, 2, none⟩ = some (.int .i64 0) := HA2.out.cell 2
    have e3 : V2.cell? ⟨A, 3, none⟩ = some (.int .i64 0) := HA2.out.cell 3
    have e4 : V2.cell? ⟨A, 4, none⟩ = some (.int .i64 0) := HA2.out.cell 4
    have e5 : V2.cell? ⟨A, 5, none⟩ = some (.int .i64 0) := HA2.out.cell 5
    have e6 : V2.cell? ⟨A, 6, none⟩ = some (.string ⟨#[]⟩) := HA2.out.cell 6
    have e7 : V2.cell? ⟨A, 7, none⟩ = some (.slice none 0 0) := HA2.out.cell 7
    have e8 : V2.cell? ⟨A, 8, none⟩ = some (.slice none 0 0) := HA2.out.cell 8
    have z0 : V2.cell? ⟨R, 0, none⟩ = some (.int .i64 0) := HR2.out.cell 0
    have y0 := HR2.out.frozen 0
    have z1 : V2.cell? ⟨R, 1, none⟩ = some (.int .i64 0) := HR2.out.cell 1
    have y1 := HR2.out.frozen 1
    have z2 : V2.cell? ⟨R, 2, none⟩ = some (.int .i64 0) := HR2.out.cell 2
    have y2 := HR2.out.frozen 2
    have z3 : V2.cell? ⟨R, 3, none⟩ = some (.int .i64 0) := HR2.out.cell 3
    have y3 := HR2.out.frozen 3
    have z4 : V2.cell? ⟨R, 4, none⟩ = some (.int .i64 0) := HR2.out.cell 4
    have y4 := HR2.out.frozen 4
    have z5 : V2.cell? ⟨R, 5, none⟩ = some (.int .i64 0) := HR2.out.cell 5
    have y5 := HR2.out.frozen 5
    have z6 : V2.cell? ⟨R, 6, none⟩ = some (.string ⟨#[]⟩) := HR2.out.cell 6
    have y6 := HR2.out.frozen 6
    have z7 : V2.cell? ⟨R, 7, none⟩ = some (.slice none 0 0) := HR2.out.cell 7
    have y7 := HR2.out.frozen 7
    have z8 : V2.cell? ⟨R, 8, none⟩ = some (.slice none 0 0) := HR2.out.cell 8
    have y8 := HR2.out.frozen 8
    go_wp2
    refine bodyPost_ret (results_cell_row rfl _ _ R 38 _ (0, 0) _ rfl (blk_over9 HR2.out _ _ _ _ _ _ _ _ _) Try.underlying38 rfl (by kernel_rfl)) rfl ⟨by rw [HP.out]; rfl, ?_⟩
    rw [HAE.out]
    exact below_over9 HB2.out HRL.out _ _ _ _ _ _ _ _ _
end Go.Proofs.Ytgkmgpjhpplkiaa
