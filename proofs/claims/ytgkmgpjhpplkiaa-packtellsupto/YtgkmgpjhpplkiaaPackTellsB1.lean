import Derived.Test.YtgkmgpjhpplkiaaPackX
import Derived.Test.YtgkmgpjhpplkiaaSays
import Derived.Test.YtgkmgpjhpplkiaaIntsI
import Derived.Laws.Rows
import Derived.Deep.CutBlock
import Derived.Deep.DeepCutAuto
import Derived.Test.YtgkmgpjhpplkiaaPackN
import Derived.Test.YtgkmgpjhpplkiaaPackR
import Derived.BigQuiet
import Derived.BigRegion
import Derived.Test.YtgkmgpjhpplkiaaPackV
import Derived.Test.YtgkmgpjhpplkiaaEntM
import Derived.Test.YtgkmgpjhpplkiaaNameA
import Derived.Laws.CopyOwn
import Derived.Lib.SlBuf
import Derived.Test.YtgkmgpjhpplkiaaPackA
import Derived.Deep.CutRange
import Derived.Test.YtgkmgpjhpplkiaaRows
import Derived.Test.YtgkmgpjhpplkiaaOpen
import Derived.Test.YtgkmgpjhpplkiaaPackD
import Derived.Test.YtgkmgpjhpplkiaaRunsM
import Derived.Test.YtgkmgpjhpplkiaaCore
import Derived.Deep.RegionHeld3
import Derived.Test.YtgkmgpjhpplkiaaHoldL
import Derived.OpenShut
import Derived.Test.YtgkmgpjhpplkiaaInoC
import Derived.Test.YtgkmgpjhpplkiaaPackM
import Derived.Test.YtgkmgpjhpplkiaaMem2
import Derived.Deep.RegionWith
/-
  garretlaw13's clean: a deed with what its kind has alone.
-/
namespace Go.Proofs.Ytgkmgpjhpplkiaa
open Go.RowKit
set_option linter.unusedVariables false
set_option maxRecDepth 100000

/-- What 'clean' makes of a deed. -/
def cleanK (k : Int) : Int := 1 + k % 18446744073709551616 % 4
def cleanV (x : Dv) : Dv := if cleanK x.d.kind = 2 then ⟨⟨2, 0, x.d.x⟩, x.ev, x.rv⟩ else ⟨⟨cleanK x.d.kind, x.d.no, noI⟩, .slice none 0 0, .slice none 0 0⟩
def cleanD (d : Dd) : Dd := if cleanK d.kind = 2 then ⟨2, 0, d.x⟩ else ⟨cleanK d.kind, d.no, noI⟩
theorem cleanV_d (x : Dv) : (cleanV x).d = cleanD x.d := by unfold cleanV cleanD; split <;> rfl
theorem cleanK_range (k : Int) : 1 ≤ cleanK k ∧ cleanK k ≤ 4 := by unfold cleanK; omega
theorem cut_4 (c : Int) : wrap64 ((IntKind.u64.wrap c).tmod 4) = cleanK c - 1 := by
  unfold cleanK
  rw [IntKind.wrap_u64, Int.tmod_eq_emod_of_nonneg (Int.emod_nonneg _ (by omega)), IntWalk.wrap64_in _ (by omega)]
  omega
theorem cleanV_wf {x : Dv} (h : x.Wf) : (cleanV x).Wf := by
  unfold cleanV
  have := cleanK_range x.d.kind
  split
  · exact ⟨wf_i64 (by simp) (by simp), wf_i64 (by simp) (by simp), h.xno, h.xkind, h.xlinks, h.xsize, h.t, h.ev, h.rv⟩
  · exact ⟨wf_i64 (by dsimp only; omega) (by dsimp only; omega), h.no, wf_i64 (by simp [noI]) (by simp [noI]), wf_i64 (by simp [noI]) (by simp [noI]), wf_i64 (by simp [noI]) (by simp [noI]), wf_i64 (by simp [noI]) (by simp [noI]), by simp [noI], rfl, rfl⟩
theorem cleanV_reads {w : World} {x : Dv} (h : x.Reads w) : (cleanV x).Reads w := by
  unfold cleanV
  split
  · exact ⟨h.e, h.r⟩
  · exact ⟨ERow.nil w, RRow.nil w⟩
/-- A struct of nine cells, stored whole. -/
theorem blk_over9 {V : World} {B : Nat} {t : TypeId} {z0 z1 z2 z3 z4 z5 z6 z7 z8 : Value} (h : Blk V B #[z0, z1, z2, z3, z4, z5, z6, z7, z8] t) (v0 v1 v2 v3 v4 v5 v6 v7 v8 : Value) :
    Blk (((((((((V.setCell ⟨B, 0, none⟩ v0).setCell ⟨B, 1, none⟩ v1).setCell ⟨B, 2, none⟩ v2).setCell ⟨B, 3, none⟩ v3).setCell ⟨B, 4, none⟩ v4).setCell ⟨B, 5, none⟩ v5).setCell ⟨B, 6, none⟩ v6).setCell ⟨B, 7, none⟩ v7).setCell ⟨B, 8, none⟩ v8) B #[v0, v1, v2, v3, v4, v5, v6, v7, v8] t := by
  have := ((((((((h.set 0 v0).set 1 v1).set 2 v2).set 3 v3).set 4 v4).set 5 v5).set 6 v6).set 7 v7).set 8 v8
  simpa using this
theorem below_over9 {w V : World} {B C : Nat} (h : Below C w V) (hc : C ≤ B) (v0 v1 v2 v3 v4 v5 v6 v7 v8 : Value) :
    Below C w (((((((((V.setCell ⟨B, 0, none⟩ v0).setCell ⟨B, 1, none⟩ v1).setCell ⟨B, 2, none⟩ v2).setCell ⟨B, 3, none⟩ v3).setCell ⟨B, 4, none⟩ v4).setCell ⟨B, 5, none⟩ v5).setCell ⟨B, 6, none⟩ v6).setCell ⟨B, 7, none⟩ v7).setCell ⟨B, 8, none⟩ v8) :=
  ((((((((h.setCell (p := ⟨B, 0, none⟩) hc v0).setCell (p := ⟨B, 1, none⟩) hc v1).setCell (p := ⟨B, 2, none⟩) hc v2).setCell (p := ⟨B, 3, none⟩) hc v3).setCell (p := ⟨B, 4, none⟩) hc v4).setCell (p := ⟨B, 5, none⟩) hc v5).setCell (p := ⟨B, 6, none⟩) hc v6).setCell (p := ⟨B, 7, none⟩) hc v7).setCell (p := ⟨B, 8, none⟩) hc v8

set_option maxHeartbeats 4000000 in
theorem clean_any (w : World) (x : Dv) (h : x.Wf) (hr : x.Reads w) :
    Calls Try.prog 19 #[.agg x.cells.toArray] w fun e w' => e = .returned (.agg (cleanV x).cells.toArray) ∧ Below w.heap.size w w' := by
  obtain ⟨⟨kk, nn, ⟨no, kind, links, size, t, es, rs⟩⟩, ev, rv⟩ := x
  obtain ⟨he, hrr⟩ := hr
  dsimp only at he hrr
  obtain ⟨ea, ec, hev⟩ := he.of_len
  obtain ⟨ra, rc, hrv⟩ := hrr.of_len
  subst hev hrv
  have hcut := cut_4 kk
  have hk := cleanK_range kk
  clear h he hrr
  generalize hO : (cleanV _).cells.toArray = O
  simp only [cleanV] at hO
  generalize es.length = le at *
  generalize rs.length = lr at *
  obtain ⟨m, hm⟩ : ∃ m, cleanK kk = 1 + m := ⟨cleanK kk - 1, by omega⟩
  rw [hm] at hk hcut hO
  have HO := hide hO
  clear hO
  simp only [Dv.cells]
  rw [show 1 + m - 1 = m by omega] at hcut
  clear hm
  obtain ⟨w0, hw0⟩ : ∃ W, W = w.alloc (.cells #[.int .i64 kk, .int .i64 nn, .int .i64 no, .int .i64 kind, .int .i64 links, .int .i64 size, .string t, .slice ea le ec, .slice ra lr rc] 38) := ⟨_, rfl⟩
  have hb0 : Below w.heap.size w w0 := by rw [hw0]; exact kl_alloc w _
  have hB0 : Blk w0 w.heap.size #[.int .i64 kk, .int .i64 nn, .int .i64 no, .int .i64 kind, .int .i64 links, .int .i64 size, .string t, .slice ea le ec, .slice ra lr rc] 38 := by rw [hw0]; exact Blk.new w _ _
  have hsz : w0.heap.size = w.heap.size + 1 := by rw [hw0]; simp
  obtain ⟨V, hV⟩ : ∃ W, W = w0.alloc (.cells #[.int .i64 0, .int .i64 0, .int .i64 0, .int .i64 0, .int .i64 0, .int .i64 0, .string ⟨#[]⟩, .slice none 0 0, .slice none 0 0] 38) := ⟨_, rfl⟩
  have hb1 : Below w0.heap.size w0 V := by rw [hV]; exact kl_alloc w0 _
  have hB1 : Blk V (w.heap.size + 1) #[.int .i64 0, .int .i64 0, .int .i64 0, .int .i64 0, .int .i64 0, .int .i64 0, .string ⟨#[]⟩, .slice none 0 0, .slice none 0 0] 38 := by rw [hV, ← hsz]; exact Blk.new w0 _ _
  have HA := hide (kl_blk hb1 hB0)
  have HR := hide hB1
  have HB := hide (kl_step hb1 hb0)
  clear hb0 hB0 hsz hb1 hB1
  go_enter Try.func19, Try.ntmps19
  go_upto_region 1 with fail
  rw [← hw0, ← hV]
  clear hw0 hV
  generalize hA : w.heap.size = A at *
  have HAE := hide hA
  clear hA
  obtain ⟨R, hR⟩ : ∃ R, R = A + 1 := ⟨_, rfl⟩
  rw [← hR] at HR ⊢
  have hne : R ≠ A := by omega
  have HNE := hide hne
  have HRL := hide (show A ≤ R by omega)
  clear hR hne
  have a0 : V.cell? ⟨A, 0, none⟩ = some (.int .i64 kk) := HA.out.cell 0
  have f0 := HA.out.frozen 0
  have HA1 := hide (show Blk (V.setCell ⟨A, 0, none⟩ (.int .i64 (1 + m))) A #[.int .i64 (1 + m), .int .i64 nn, .int .i64 no, .int .i64 kind, .int .i64 links, .int .i64 size, .string t, .slice ea le ec, .slice ra lr rc] 38 from HA.out.set 0 (.int .i64 (1 + m)))
  have HR1 := hide (HR.out.kept (grown_setCell V A 0 (.int .i64 (1 + m))) (by simpa using HNE.out))
  have HB1 := hide (HB.out.setCell (p := ⟨A, 0, none⟩) (Nat.le_refl _) (.int .i64 (1 + m)))
  clear HA HR HB
  go_upto_region 2 with fail
  generalize V.setCell ⟨A, 0, none⟩ (.int .i64 (1 + m)) = V1 at *
  clear a0 f0 hcut
  generalize 1 + m = j at *
  have b0 : V1.cell? ⟨A, 0, none⟩ = some (.int .i64 (j)) := HA1.out.cell 0
  have b1 : V1.cell? ⟨A, 1, none⟩ = some (.int .i64 nn) := HA1.out.cell 1
  have f1 := HA1.out.frozen 1
  have b2 : V1.cell? ⟨A, 2, none⟩ = some (.int .i64 no) := HA1.out.cell 2
  have f2 := HA1.out.frozen 2
  have b3 : V1.cell? ⟨A, 3, none⟩ = some (.int .i64 kind) := HA1.out.cell 3
  have f3 := HA1.out.frozen 3
  have b4 : V1.cell? ⟨A, 4, none⟩ = some (.int .i64 links) := HA1.out.cell 4
  have f4 := HA1.out.frozen 4
  have b5 : V1.cell? ⟨A, 5, none⟩ = some (.int .i64 size) := HA1.out.cell 5
  have f5 := HA1.out.frozen 5
  have b6 : V1.cell? ⟨A, 6, none⟩ = some (.string t) := HA1.out.cell 6
  have f6 := HA1.out.frozen 6
  have b7 : V1.cell? ⟨A, 7, none⟩ = some (.slice ea le ec) := HA1.out.cell 7
  have f7 := HA1.out.frozen 7
  have b8 : V1.cell? ⟨A, 8, none⟩ = some (.slice ra lr rc) := HA1.out.cell 8
  have f8 := HA1.out.frozen 8
  by_cases hq : j = 2
  · have HP := hide (HO.out.symm.trans (by rw [if_pos hq]))
    subst hq
    have HA2 := hide (show Blk (V1.setCell ⟨A, 1, none⟩ (.int .i64 0)) A #[.int .i64 2, .int .i64 0, .int .i64 no, .int .i64 kind, .int .i64 links, .int .i64 size, .string t, .slice ea le ec, .slice ra lr rc] 38 from HA1.out.set 1 (.int .i64 0))
    have HR2 := hide (HR1.out.kept (grown_setCell V1 A 1 (.int .i64 0)) (by simpa using HNE.out))
    have HB2 := hide (HB1.out.setCell (p := ⟨A, 1, none⟩) (Nat.le_refl _) (.int .i64 0))
    clear HA1 HR1 HB1 HO b2 b3 b4 b5 b6 b7 b8 f2 f3 f4 f5 f6 f7 f8
    go_upto_region 5 with fail
    generalize V1.setCell ⟨A, 1, none⟩ (.int .i64 0) = V2 at *
    clear b0 b1 f1
    have e0 : V2.cell? ⟨A, 0, none⟩ = some (.int .i64 2) := HA2.out.cell 0
    have e1 : V2.cell? ⟨A, 1, none⟩ = some (.int .i64 0) := HA2.out.cell 1
    have e2 : V2.cell? ⟨A, 2, none⟩ = some (.int .i64 no) := HA2.out.cell 2
    have e3 : V2.cell? ⟨A, 3, none⟩ = some (.int .i64 kind) := HA2.out.cell 3
    have e4 : V2.cell? ⟨A, 4, none⟩ = some (.int .i64 links) := HA2.out.cell 4
    have e5 : V2.cell? ⟨A, 5, none⟩ = some (.int .i64 size) := HA2.out.cell 5
    have e6 : V2.cell? ⟨A, 6, none⟩ = some (.string t) := HA2.out.cell 6
    have e7 : V2.cell? ⟨A, 7, none⟩ = some (.slice ea le ec) := HA2.out.cell 7
    have e8 : V2.cell? ⟨A, 8, none⟩ = some (.slice ra lr rc) := HA2.out.cell 8
    have z0 : V2.cell? ⟨R, 0, none⟩ = some (.int .i64 0) := HR2.out.cell 0
    have y0 := HR2.out.frozen 0
    have z1 : V2.cell? ⟨R, 1, none⟩ = some (.int .i64 0) := HR2.out.cell 1
    have y1 := HR2.out.frozen 1
    have z2 : V2.cell? ⟨R, 2, none⟩ = some (.int .i64 0) := HR2.out.cell 2
    have y2 := HR2.out.frozen 2
    have z3 : V2.cell? ⟨R, 3, none⟩ = some (.int .i64 0) := HR2.out.cell 3
    have y3 := HR2.out.frozen 3
    have z4 : V2.cell? ⟨R, 4, none⟩ = some (.int .i64 0) := HR2.out.cell 4
    have y4 := HR2.out.frozen 4
    have z5 : V2.cell? ⟨R, 5, none⟩ = some (.int .i64 0) := HR2.out.cell 5
    have y5 := HR2.out.frozen 5
    have z6 : V2.cell? ⟨R, 6, none⟩ = some (.string ⟨#[]⟩) := HR2.out.cell 6
    have y6 := HR2.out.frozen 6
    have z7 : V2.cell? ⟨R, 7, none⟩ = some (.slice none 0 0) := HR2.out.cell 7
    have y7 := HR2.out.frozen 7
    have z8 : V2.cell? ⟨R, 8, none⟩ = some (.slice none 0 0) := HR2.out.cell 8
    have y8 := HR2.out.frozen 8
    go_wp2
    refine bodyPost_ret (results_cell_row rfl _ _ R 38 _ (0, 0) _ rfl (blk_over9 HR2.out _ _ _ _ _ _ _ _ _) Try.underlying38 rfl (by kernel_rfl)) rfl ⟨by rw [HP.out]; rfl, ?_⟩
    rw [HAE.out]
    exact below_over9 HB2.out HRL.out _ _ _ _ _ _ _ _ _
  · have HP := hide (HO.out.symm.trans (by rw [if_neg hq]))
    have hqb : (j == 2) = false := by simpa using hq
    clear hq
    have HA2 := hide (show Blk (((((((V1.setCell ⟨A, 2, none⟩ (.int .i64 0)).setCell ⟨A, 3, none⟩ (.int .i64 0)).setCell ⟨A, 4, none⟩ (.int .i64 0)).setCell ⟨A, 5, none⟩ (.int .i64 0)).setCell ⟨A, 6, none⟩ (.string ⟨#[]⟩)).setCell ⟨A, 7, none⟩ (.slice none 0 0)).setCell ⟨A, 8, none⟩ (.slice none 0 0)) A #[.int .i64 (j), .int .i64 nn, .int .i64 0, .int .i64 0, .int .i64 0, .int .i64 0, .string ⟨#[]⟩, .slice none 0 0, .slice none 0 0] 38 from (((((((HA1.out.set 2 (.int .i64 0)).set 3 (.int .i64 0)).set 4 (.int .i64 0)).set 5 (.int .i64 0)).set 6 (.string ⟨#[]⟩)).set 7 (.slice none 0 0)).set 8 (.slice none 0 0)))
    have HR2 := hide (((((((HR1.out.kept (grown_setCell _ A 2 (.int .i64 0)) (by simpa using HNE.out)).kept (grown_setCell _ A 3 (.int .i64 0)) (by simpa using HNE.out)).kept (grown_setCell _ A 4 (.int .i64 0)) (by simpa using HNE.out)).kept (grown_setCell _ A 5 (.int .i64 0)) (by simpa using HNE.out)).kept (grown_setCell _ A 6 (.string ⟨#[]⟩)) (by simpa using HNE.out)).kept (grown_setCell _ A 7 (.slice none 0 0)) (by simpa using HNE.out)).kept (grown_setCell _ A 8 (.slice none 0 0)) (by simpa using HNE.out))
    have HB2 := hide (((((((HB1.out.setCell (p := ⟨A, 2, none⟩) (Nat.le_refl _) (.int .i64 0)).setCell (p := ⟨A, 3, none⟩) (Nat.le_refl _) (.int .i64 0)).setCell (p := ⟨A, 4, none⟩) (Nat.le_refl _) (.int .i64 0)).setCell (p := ⟨A, 5, none⟩) (Nat.le_refl _) (.int .i64 0)).setCell (p := ⟨A, 6, none⟩) (Nat.le_refl _) (.string ⟨#[]⟩)).setCell (p := ⟨A, 7, none⟩) (Nat.le_refl _) (.slice none 0 0)).setCell (p := ⟨A, 8, none⟩) (Nat.le_refl _) (.slice none 0 0))
    have HW : Hid (∃ W, W = (((((((V1.setCell ⟨A, 2, none⟩ (.int .i64 0)).setCell ⟨A, 3, none⟩ (.int .i64 0)).setCell ⟨A, 4, none⟩ (.int .i64 0)).setCell ⟨A, 5, none⟩ (.int .i64 0)).setCell ⟨A, 6, none⟩ (.string ⟨#[]⟩)).setCell ⟨A, 7, none⟩ (.slice none 0 0)).setCell ⟨A, 8, none⟩ (.slice none 0 0))) := hide ⟨_, rfl⟩
    clear HA1 HR1 HB1 HO
    go_upto_region 5 with fail
    generalize (((((((V1.setCell ⟨A, 2, none⟩ (.int .i64 0)).setCell ⟨A, 3, none⟩ (.int .i64 0)).setCell ⟨A, 4, none⟩ (.int .i64 0)).setCell ⟨A, 5, none⟩ (.int .i64 0)).setCell ⟨A, 6, none⟩ (.string ⟨#[]⟩)).setCell ⟨A, 7, none⟩ (.slice none 0 0)).setCell ⟨A, 8, none⟩ (.slice none 0 0)) = V2 at *
    clear b0 b1 b2 b3 b4 b5 b6 b7 b8 f1 f2 f3 f4 f5 f6 f7 f8 HW
    have e0 : V2.cell? ⟨A, 0, none⟩ = some (.int .i64 (j)) := HA2.out.cell 0
    have e1 : V2.cell? ⟨A, 1, none⟩ = some (.int .i64 nn) := HA2.out.cell 1
    have e2 : V2.cell? ⟨A, 2, none⟩ = some (.int .i64 0) := HA2.out.cell 2
    have e3 : V2.cell? ⟨A, 3, none⟩ = some (.int .i64 0) := HA2.out.cell 3
    have e4 : V2.cell? ⟨A, 4, none⟩ = some (.int .i64 0) := HA2.out.cell 4
    have e5 : V2.cell? ⟨A, 5, none⟩ = some (.int .i64 0) := HA2.out.cell 5
    have e6 : V2.cell? ⟨A, 6, none⟩ = some (.string ⟨#[]⟩) := HA2.out.cell 6
    have e7 : V2.cell? ⟨A, 7, none⟩ = some (.slice none 0 0) := HA2.out.cell 7
    have e8 : V2.cell? ⟨A, 8, none⟩ = some (.slice none 0 0) := HA2.out.cell 8
    have z0 : V2.cell? ⟨R, 0, none⟩ = some (.int .i64 0) := HR2.out.cell 0
    have y0 := HR2.out.frozen 0
    have z1 : V2.cell? ⟨R, 1, none⟩ = some (.int .i64 0) := HR2.out.cell 1
    have y1 := HR2.out.frozen 1
    have z2 : V2.cell? ⟨R, 2, none⟩ = some (.int .i64 0) := HR2.out.cell 2
    have y2 := HR2.out.frozen 2
    have z3 : V2.cell? ⟨R, 3, none⟩ = some (.int .i64 0) := HR2.out.cell 3
    have y3 := HR2.out.frozen 3
    have z4 : V2.cell? ⟨R, 4, none⟩ = some (.int .i64 0) := HR2.out.cell 4
    have y4 := HR2.out.frozen 4
    have z5 : V2.cell? ⟨R, 5, none⟩ = some (.int .i64 0) := HR2.out.cell 5
    have y5 := HR2.out.frozen 5
    have z6 : V2.cell? ⟨R, 6, none⟩ = some (.string ⟨#[]⟩) := HR2.out.cell 6
    have y6 := HR2.out.frozen 6
    have z7 : V2.cell? ⟨R, 7, none⟩ = some (.slice none 0 0) := HR2.out.cell 7
    have y7 := HR2.out.frozen 7
    have z8 : V2.cell? ⟨R, 8, none⟩ = some (.slice none 0 0) := HR2.out.cell 8
    have y8 := HR2.out.frozen 8
    go_wp2
    refine bodyPost_ret (results_cell_row rfl _ _ R 38 _ (0, 0) _ rfl (blk_over9 HR2.out _ _ _ _ _ _ _ _ _) Try.underlying38 rfl (by kernel_rfl)) rfl ⟨by rw [HP.out]; rfl, ?_⟩
    rw [HAE.out]
    exact below_over9 HB2.out HRL.out _ _ _ _ _ _ _ _ _
end Go.Proofs.Ytgkmgpjhpplkiaa

/-
  The program's reader: a deed.
-/
namespace Go.Proofs.Ytgkmgpjhpplkiaa
open Go.RowKit
set_option linter.unusedVariables false
set_option maxRecDepth 100000

theorem drop_cons {xs : List Int} {a : Nat} (h : a < xs.length) : xs.drop a = xs.getD a 0 :: xs.drop (a + 1) := by
  rw [List.drop_eq_getElem_cons h]
  simp [List.getD, List.getElem?_eq_getElem h]

theorem getS1 {xs : List Int} {a : Nat} (h : a < xs.length) : getS xs a 1 = (xs.getD a 0, 0) := by
  have e := getS_inP (xs := xs) (a := a) (n := 1) (by omega) (by omega) (by omega)
  rw [show ((1 : Nat) : Int) = 1 from rfl] at e
  rw [e]
  have e2 : (xs.drop a).take 1 = [xs.getD a 0] := by
    rw [drop_cons h]
    rfl
  rw [e2]
  simp [num]
/-- What comes of the deed at a place. -/
def NextP (xs : List Int) (a1 : Nat) (q : Option (Dd × List Int)) (x : Dd) (at' er : Int) : Prop :=
  match q with
  | none => er = 3
  | some p => er = 0 ∧ x = p.1 ∧ ∃ a' : Nat, at' = a' ∧ p.2 = xs.drop a' ∧ a1 ≤ a' ∧ a' ≤ xs.length
def NextD (xs : List Int) (a : Nat) (x : Dd) (at' er : Int) : Prop :=
  if xs.getD a 0 < 1 ∨ 4 < xs.getD a 0 then er = 5 else NextP xs (a + 1) (deedD (xs.getD a 0) (xs.drop (a + 1))) x at' er
theorem next_of {α : Type} {xs : List Int} {d : Dec α} {r : Rd → α × Rd} (h : Rds xs d r) (f : α → Dd) {a1 : Nat} (ha : a1 ≤ xs.length) :
    NextP xs a1 (mapD f d (xs.drop a1)) (f (r ⟨a1, false⟩).1) (r ⟨a1, false⟩).2.at_ (erN (r ⟨a1, false⟩).2.bad) := by
  have hm := h.map f
  unfold NextP
  cases hc : mapD f d (xs.drop a1) with
  | none =>
    have := hm.no a1 ha hc
    unfold mapR at this
    dsimp only at this ⊢
    rw [this]
    rfl
  | some p =>
    obtain ⟨v, ys⟩ := p
    obtain ⟨a', e, hy, h1, h2⟩ := hm.yes a1 v ys ha hc
    unfold mapR at e
    simp only [Prod.mk.injEq] at e
    dsimp only
    rw [e.2]
    exact ⟨rfl, e.1, a', rfl, hy, h1, h2⟩

theorem grown7at (V : World) (B : Nat) (i0 i1 i2 i3 i4 i5 i6 : Nat) (v0 v1 v2 v3 v4 v5 v6 : Value) : V.grownBy (((((((V.setCell ⟨B, i0, none⟩ v0).setCell ⟨B, i1, none⟩ v1).setCell ⟨B, i2, none⟩ v2).setCell ⟨B, i3, none⟩ v3).setCell ⟨B, i4, none⟩ v4).setCell ⟨B, i5, none⟩ v5).setCell ⟨B, i6, none⟩ v6) (some B) :=
  grown_trans (grown_trans (grown_trans (grown_trans (grown_trans (grown_trans (grown_setCell _ _ _ _) (grown_setCell _ _ _ _)) (grown_setCell _ _ _ _)) (grown_setCell _ _ _ _)) (grown_setCell _ _ _ _)) (grown_setCell _ _ _ _)) (grown_setCell _ _ _ _)
theorem grown9 (V : World) (B : Nat) (v0 v1 v2 v3 v4 v5 v6 v7 v8 : Value) : V.grownBy (((((((((V.setCell ⟨B, 0, none⟩ v0).setCell ⟨B, 1, none⟩ v1).setCell ⟨B, 2, none⟩ v2).setCell ⟨B, 3, none⟩ v3).setCell ⟨B, 4, none⟩ v4).setCell ⟨B, 5, none⟩ v5).setCell ⟨B, 6, none⟩ v6).setCell ⟨B, 7, none⟩ v7).setCell ⟨B, 8, none⟩ v8) (some B) :=
  grown_trans (grown_trans (grown7 V B v0 v1 v2 v3 v4 v5 v6) (grown_setCell _ _ _ _)) (grown_setCell _ _ _ _)
theorem dv_num {k n : Int} (hk : (Lit.int .i64 k).wf = true) (hn : (Lit.int .i64 n).wf = true) : Dv.Wf ⟨⟨k, n, noI⟩, .slice none 0 0, .slice none 0 0⟩ :=
  ⟨hk, hn, wf_i64 (by simp [noI]) (by simp [noI]), wf_i64 (by simp [noI]) (by simp [noI]), wf_i64 (by simp [noI]) (by simp [noI]), wf_i64 (by simp [noI]) (by simp [noI]), by simp [noI], rfl, rfl⟩

/-- Answers such a deed. -/
def SaysD (xs : List Int) (a P : Nat) (b : Value) (w : World) (e : Ending) (w' : World) : Prop :=
  ∃ (x : Dv) (at' er : Int), e = .returned (.agg x.cells.toArray) ∧ x.Wf ∧ EOwn w.heap.size w' x.ev x.d.x.es ∧ ROwn w.heap.size w' x.rv x.d.x.rs ∧ Blk w' P #[b, .int .i64 at', .int .i64 er] 53 ∧ w.grownBy w' (some P) ∧ NextD xs a x.d at' er

set_option maxHeartbeats 8000000 in
theorem PDeed_any (w : World) (P : Nat) (b : Value) (xs : List Int) (a : Nat) (hB : RdQ w P b ⟨a, false⟩) (hr : RowP w P b xs) (ha : a < xs.length) (hx : xs.length ≤ 1000000) :
    Calls Try.prog 21 #[.pointer (some ⟨P, 0, none⟩)] w (SaysD xs a P b w) := by
  have hby := (hr w (World.grownBy.refl _ _)).bys
  have HC1 := hide (fun w' (hb : RdQ w' P b ⟨a, false⟩) (hg : w.grownBy w' (some P)) => PBytes_any w' P b xs ⟨a, false⟩ 1 hb (hr w' hg) (by dsimp only; omega) (by dsimp only; omega) (by omega) (by omega))
  have hg1 : gdR 0 (rdBy xs 1) ⟨a, false⟩ = (xs.getD a 0, ⟨((a + 1 : Nat) : Int), false⟩) := by
    unfold gdR rdBy
    rw [if_neg (by simp)]
    dsimp only
    rw [getS1 ha]
    rfl
  rw [hg1] at HC1
  have hk := hby.at a
  have hdr := drop_cons ha
  have HFin := hide (fun (x : Dv) (at' er : Int) (e : Ending) (w' : World) (h1 : e = .returned (.agg x.cells.toArray)) (h2 : x.Wf) (h3 : EOwn w.heap.size w' x.ev x.d.x.es) (h4 : ROwn w.heap.size w' x.rv x.d.x.rs) (h5 : Blk w' P #[b, .int .i64 at', .int .i64 er] 53) (h6 : w.grownBy w' (some P))
    (h7 : if xs.getD a 0 < 1 ∨ 4 < xs.getD a 0 then er = 5 else NextP xs (a + 1) (deedD (xs.getD a 0) (xs.drop (a + 1))) x.d at' er) => (show SaysD xs a P b w e w' from ⟨x, at', er, h1, h2, h3, h4, h5, h6, h7⟩))
  generalize hG : SaysD xs a P b w = G at *
  clear hG
  generalize hkk : xs.getD a 0 = k at *
  have hS1 : InS xs 8 ⟨((a + 1 : Nat) : Int), false⟩ := ⟨by dsimp only; omega, by dsimp only; omega, fun _ => by dsimp only; omega⟩
  have HN := hide (fun w' (hb : RdQ w' P b ⟨((a + 1 : Nat) : Int), false⟩) (hg : w.grownBy w' (some P)) => PNumber_any w' P b xs ⟨((a + 1 : Nat) : Int), false⟩ hb (hr w' hg) (by dsimp only; omega) (by dsimp only; omega))
  have HI := hide (fun w' (hb : RdQ w' P b ⟨((a + 1 : Nat) : Int), false⟩) (hg : w.grownBy w' (some P)) => PInode_any w' P b xs ⟨((a + 1 : Nat) : Int), false⟩ hb (hr.to hg) hS1 hx)
  have HX1 := hide (next_of ((num_rds xs).gd 0) (fun v => (⟨k, v, noI⟩ : Dd)) (show a + 1 ≤ xs.length by omega))
  have HX2 := hide (next_of (ino_rdsP hby) (fun x => (⟨2, 0, x⟩ : Dd)) (show a + 1 ≤ xs.length by omega))
  have hwn := gnum_wf xs ⟨((a + 1 : Nat) : Int), false⟩
  generalize (gdR 0 (rdNum xs) ⟨((a + 1 : Nat) : Int), false⟩).1 = nv at *
  generalize (gdR 0 (rdNum xs) ⟨((a + 1 : Nat) : Int), false⟩).2 = ns at *
  generalize rdInoP xs ⟨((a + 1 : Nat) : Int), false⟩ = ri at *
  obtain ⟨ix, is⟩ := ri
  have HB := hide hB
  have HPL := hide hB.lt
  have HWN := hide hwn
  clear hB hr hg1 hby hdr hkk hwn hS1 hx ha
  have hba := kl_alloc w (.cells #[.int .i64 0, .int .i64 0, .int .i64 0, .int .i64 0, .int .i64 0, .int .i64 0, .string ⟨#[]⟩, .slice none 0 0, .slice none 0 0] 38)
  have hbl := Blk.new w #[.int .i64 0, .int .i64 0, .int .i64 0, .int .i64 0, .int .i64 0, .int .i64 0, .string ⟨#[]⟩, .slice none 0 0, .slice none 0 0] 38
  have HB0 := hide (show RdQ _ P b ⟨a, false⟩ from kl_blk hba HB.out)
  have HG0 := hide (below_grown hba (some P))
  have HR0 := hide hbl
  have HZ0 := hide (show w.heap.size + 1 ≤ (w.alloc (.cells #[.int .i64 0, .int .i64 0, .int .i64 0, .int .i64 0, .int .i64 0, .int .i64 0, .string ⟨#[]⟩, .slice none 0 0, .slice none 0 0] 38)).heap.size by simp)
  clear hba hbl HB
  go_enter Try.func21, Try.ntmps21
  go_upto_region 1 with fail
  generalize w.alloc (.cells #[.int .i64 0, .int .i64 0, .int .i64 0, .int .i64 0, .int .i64 0, .int .i64 0, .string ⟨#[]⟩, .slice none 0 0, .slice none 0 0] 38) = W0 at *
  generalize hA : w.heap.size = R at *
  have HAE := hide hA
  have HNE := hide (show some R ≠ some P by intro e; have e' := Option.some.inj e; have := HPL.out; omega)
  clear hA
  obtain ⟨hk0, hk1⟩ := hk
  go_wp2_with fail
  refine (HC1.out W0 HB0.out HG0.out).mono ?_
  rintro e w1 ⟨rfl, hq, hg⟩
  have HB1 := hide hq
  have HR1 := hide (HR0.out.kept hg HNE.out)
  have HG1 := hide (grown_trans HG0.out hg)
  have HZ1 := hide (Nat.le_trans HZ0.out hg.size)
  clear hq hg HB0 HR0 HG0 HZ0
  go_upto_region 2 with fail
  have hba := kl_alloc w1 (.cells #[.int .i64 k, .int .i64 0, .int .i64 0, .int .i64 0, .int .i64 0, .int .i64 0, .string ⟨#[]⟩, .slice none 0 0, .slice none 0 0] 38)
  have hbl := Blk.new w1 #[.int .i64 k, .int .i64 0, .int .i64 0, .int .i64 0, .int .i64 0, .int .i64 0, .string ⟨#[]⟩, .slice none 0 0, .slice none 0 0] 38
  have HB2 := hide (show RdQ _ P b ⟨((a + 1 : Nat) : Int), false⟩ from kl_blk hba HB1.out)
  have HR2 := hide (kl_blk hba HR1.out)
  have HG2 := hide (grown_trans HG1.out (below_grown hba (some P)))
  have HD2 := hide hbl
  have HZ2 := hide (Nat.le_trans HZ1.out hba.size)
  clear hba hbl HB1 HR1 HG1
  generalize w1.alloc (.cells #[.int .i64 k, .int .i64 0, .int .i64 0, .int .i64 0, .int .i64 0, .int .i64 0, .string ⟨#[]⟩, .slice none 0 0, .slice none 0 0] 38) = V at *
  generalize hD : w1.heap.size = D at *
  have HND := hide (show some D ≠ some P by intro e; have e' := Option.some.inj e; have := HPL.out; have := HZ1.out; omega)
  have hRD : R ≠ D := by have := HZ1.out; omega
  have HRD := hide hRD
  have HDL := hide (show R < D by have := HZ1.out; omega)
  clear hD hRD HZ1
  have d0 : V.cell? ⟨D, 0, none⟩ = some (.int .i64 k) := HD2.out.cell 0
  by_cases hkk : k = 1 ∨ k = 3 ∨ k = 4
  · have HK1 := hide (show ¬ (k < 1 ∨ 4 < k) by omega)
    have HX := hide (show NextP xs (a + 1) (deedD k (xs.drop (a + 1))) ⟨k, nv, noI⟩ ns.at_ (erN ns.bad) by unfold deedD; rw [if_pos hkk]; exact HX1.out)
    clear HX1 HX2 HI
    have d1 : V.cell? ⟨D, 1, none⟩ = some (.int .i64 0) := HD2.out.cell 1
    rcases hkk with rfl | rfl | rfl
    all_goals
      go_wp2_with fail
      refine (HN.out V HB2.out HG2.out).mono ?_
      rintro e w3 ⟨rfl, hq, hg⟩
      have HB3 := hide hq
      have HR3 := hide (HR2.out.kept hg HNE.out)
      have HD3 := hide (HD2.out.kept hg HND.out)
      have HG3 := hide (grown_trans HG2.out hg)
      clear hq hg d0 d1 HB2 HR2 HD2 HG2 HN
      have d1 : w3.cell? ⟨D, 1, none⟩ = some (.int .i64 0) := HD3.out.cell 1
      have f1 := HD3.out.frozen 1
      have HD4 := hide (show Blk (w3.setCell ⟨D, 1, none⟩ (.int .i64 nv)) D #[_, .int .i64 nv, .int .i64 0, .int .i64 0, .int .i64 0, .int .i64 0, .string ⟨#[]⟩, .slice none 0 0, .slice none 0 0] 38 from HD3.out.set 1 (.int .i64 nv))
      have HR4 := hide (HR3.out.kept (grown_setCell w3 D 1 (.int .i64 nv)) (by simpa using HRD.out))
      have HB4 := hide (show RdQ _ P b ns from Blk.kept HB3.out (grown_setCell w3 D 1 (.int .i64 nv)) (fun e => HND.out e.symm))
      have HG4 := hide (grown_mix HG3.out (grown_setCell w3 D 1 (.int .i64 nv)) (fun j e => by cases e; rw [HAE.out]; exact Nat.le_of_lt HDL.out))
      clear HB3 HR3 HD3 HG3
      go_upto_region 10 with fail
      generalize w3.setCell ⟨D, 1, none⟩ (.int .i64 nv) = V4 at *
      clear d1 f1
      have e0 := HD4.out.cell 0
      have e1 : V4.cell? ⟨D, 1, none⟩ = some (.int .i64 nv) := HD4.out.cell 1
      have e2 : V4.cell? ⟨D, 2, none⟩ = some (.int .i64 0) := HD4.out.cell 2
      have e3 : V4.cell? ⟨D, 3, none⟩ = some (.int .i64 0) := HD4.out.cell 3
      have e4 : V4.cell? ⟨D, 4, none⟩ = some (.int .i64 0) := HD4.out.cell 4
      have e5 : V4.cell? ⟨D, 5, none⟩ = some (.int .i64 0) := HD4.out.cell 5
      have e6 : V4.cell? ⟨D, 6, none⟩ = some (.string ⟨#[]⟩) := HD4.out.cell 6
      have e7 : V4.cell? ⟨D, 7, none⟩ = some (.slice none 0 0) := HD4.out.cell 7
      have e8 : V4.cell? ⟨D, 8, none⟩ = some (.slice none 0 0) := HD4.out.cell 8
      simp only [List.getElem?_toArray, List.getElem?_cons_zero] at e0
      have z0 : V4.cell? ⟨R, 0, none⟩ = some (.int .i64 0) := HR4.out.cell 0
      have y0 := HR4.out.frozen 0
      have z1 : V4.cell? ⟨R, 1, none⟩ = some (.int .i64 0) := HR4.out.cell 1
      have y1 := HR4.out.frozen 1
      have z2 : V4.cell? ⟨R, 2, none⟩ = some (.int .i64 0) := HR4.out.cell 2
      have y2 := HR4.out.frozen 2
      have z3 : V4.cell? ⟨R, 3, none⟩ = some (.int .i64 0) := HR4.out.cell 3
      have y3 := HR4.out.frozen 3
      have z4 : V4.cell? ⟨R, 4, none⟩ = some (.int .i64 0) := HR4.out.cell 4
      have y4 := HR4.out.frozen 4
      have z5 : V4.cell? ⟨R, 5, none⟩ = some (.int .i64 0) := HR4.out.cell 5
      have y5 := HR4.out.frozen 5
      have z6 : V4.cell? ⟨R, 6, none⟩ = some (.string ⟨#[]⟩) := HR4.out.cell 6
      have y6 := HR4.out.frozen 6
      have z7 : V4.cell? ⟨R, 7, none⟩ = some (.slice none 0 0) := HR4.out.cell 7
      have y7 := HR4.out.frozen 7
      have z8 : V4.cell? ⟨R, 8, none⟩ = some (.slice none 0 0) := HR4.out.cell 8
      have y8 := HR4.out.frozen 8
      go_wp2
      refine bodyPost_ret (results_cell_row rfl _ _ R 38 _ (0, 0) _ rfl (blk_over9 HR4.out _ _ _ _ _ _ _ _ _) Try.underlying38 rfl (by kernel_rfl)) rfl (HFin.out ⟨⟨_, nv, noI⟩, .slice none 0 0, .slice none 0 0⟩ _ _ _ _ rfl (dv_num (wf_i64 (by decide) (by decide)) HWN.out) (EOwn.nil _ _) (ROwn.nil _ _) (Blk.kept HB4.out (grown9 _ _ _ _ _ _ _ _ _ _ _) (fun e => HNE.out e.symm)) ?_ ?_)
      · exact grown_mix HG4.out (grown9 _ _ _ _ _ _ _ _ _ _ _) (fun j e => by cases e; rw [HAE.out]; exact Nat.le_refl _)
      · rw [if_neg HK1.out]; exact HX.out
  · by_cases hk2 : k = 2
    · subst hk2
      have HX := hide (show NextP xs (a + 1) (deedD 2 (xs.drop (a + 1))) ⟨2, 0, ix⟩ is.at_ (erN is.bad) by unfold deedD; rw [if_neg (by decide)]; exact HX2.out)
      clear HX1 HX2 HN hkk
      go_wp2_with fail
      refine (HI.out V HB2.out HG2.out).mono ?_
      rintro e w3 ⟨ev, rv, rfl, hwf, hev, hrv, hq, hg⟩
      have HB3 := hide hq
      have HR3 := hide (HR2.out.kept hg HNE.out)
      have HD3 := hide (HD2.out.kept hg HND.out)
      have HG3 := hide (grown_trans HG2.out hg)
      have HEV := hide hev
      have HRV := hide hrv
      have HWI := hide hwf
      have HVL := hide (show D < V.heap.size from HD2.out.lt)
      dsimp only at HB3 HEV HRV HWI
      obtain ⟨ino, ikind, ilinks, isize, it, es, rs⟩ := ix
      dsimp only [inoCells] at HEV HRV HWI ⊢
      obtain ⟨ea, ec, hea⟩ := HEV.out.row.of_len
      generalize es.length = le at hea
      subst hea
      obtain ⟨ra, rc, hra⟩ := HRV.out.row.of_len
      generalize rs.length = lr at hra
      subst hra
      clear hq hg d0 HB2 HR2 HD2 HG2 HI hwf hev hrv
      have d2 : w3.cell? ⟨D, 2, none⟩ = some (.int .i64 0) := HD3.out.cell 2
      have f2 := HD3.out.frozen 2
      have d3 : w3.cell? ⟨D, 3, none⟩ = some (.int .i64 0) := HD3.out.cell 3
      have f3 := HD3.out.frozen 3
      have d4 : w3.cell? ⟨D, 4, none⟩ = some (.int .i64 0) := HD3.out.cell 4
      have f4 := HD3.out.frozen 4
      have d5 : w3.cell? ⟨D, 5, none⟩ = some (.int .i64 0) := HD3.out.cell 5
      have f5 := HD3.out.frozen 5
      have d6 : w3.cell? ⟨D, 6, none⟩ = some (.string ⟨#[]⟩) := HD3.out.cell 6
      have f6 := HD3.out.frozen 6
      have d7 : w3.cell? ⟨D, 7, none⟩ = some (.slice none 0 0) := HD3.out.cell 7
      have f7 := HD3.out.frozen 7
      have d8 : w3.cell? ⟨D, 8, none⟩ = some (.slice none 0 0) := HD3.out.cell 8
      have f8 := HD3.out.frozen 8
      have HD4 := hide (show Blk (((((((w3.setCell ⟨D, 2, none⟩ (.int .i64 ino)).setCell ⟨D, 3, none⟩ (.int .i64 ikind)).setCell ⟨D, 4, none⟩ (.int .i64 ilinks)).setCell ⟨D, 5, none⟩ (.int .i64 isize)).setCell ⟨D, 6, none⟩ (.string it)).setCell ⟨D, 7, none⟩ (.slice ea le ec)).setCell ⟨D, 8, none⟩ (.slice ra lr rc)) D #[.int .i64 2, .int .i64 0, .int .i64 ino, .int .i64 ikind, .int .i64 ilinks, .int .i64 isize, .string it, .slice ea le ec, .slice ra lr rc] 38 from (((((((HD3.out.set 2 (.int .i64 ino)).set 3 (.int .i64 ikind)).set 4 (.int .i64 ilinks)).set 5 (.int .i64 isize)).set 6 (.string it)).set 7 (.slice ea le ec)).set 8 (.slice ra lr rc)))
      have hg7 := grown7at w3 D 2 3 4 5 6 7 8 (.int .i64 ino) (.int .i64 ikind) (.int .i64 ilinks) (.int .i64 isize) (.string it) (.slice ea le ec) (.slice ra lr rc)
      have HR4 := hide (HR3.out.kept hg7 (by simpa using HRD.out))
      have HB4 := hide (show RdQ _ P b is from Blk.kept HB3.out hg7 (fun e => HND.out e.symm))
      have HG4 := hide (grown_mix HG3.out hg7 (fun j e => by cases e; rw [HAE.out]; exact Nat.le_of_lt HDL.out))
      have HE4 := hide (HEV.out.grown hg7 (fun j e => by cases e; exact HVL.out))
      have HV4 := hide (HRV.out.grown hg7 (fun j e => by cases e; exact HVL.out))
      clear hg7 HB3 HR3 HD3 HG3 HEV HRV
      go_upto_region 10 with fail
      generalize (((((((w3.setCell ⟨D, 2, none⟩ (.int .i64 ino)).setCell ⟨D, 3, none⟩ (.int .i64 ikind)).setCell ⟨D, 4, none⟩ (.int .i64 ilinks)).setCell ⟨D, 5, none⟩ (.int .i64 isize)).setCell ⟨D, 6, none⟩ (.string it)).setCell ⟨D, 7, none⟩ (.slice ea le ec)).setCell ⟨D, 8, none⟩ (.slice ra lr rc)) = V4 at *
      clear d2 d3 d4 d5 d6 d7 d8 f2 f3 f4 f5 f6 f7 f8
      have e0 : V4.cell? ⟨D, 0, none⟩ = some (.int .i64 2) := HD4.out.cell 0
      have e1 : V4.cell? ⟨D, 1, none⟩ = some (.int .i64 0) := HD4.out.cell 1
      have e2 : V4.cell? ⟨D, 2, none⟩ = some (.int .i64 ino) := HD4.out.cell 2
      have e3 : V4.cell? ⟨D, 3, none⟩ = some (.int .i64 ikind) := HD4.out.cell 3
      have e4 : V4.cell? ⟨D, 4, none⟩ = some (.int .i64 ilinks) := HD4.out.cell 4
      have e5 : V4.cell? ⟨D, 5, none⟩ = some (.int .i64 isize) := HD4.out.cell 5
      have e6 : V4.cell? ⟨D, 6, none⟩ = some (.string it) := HD4.out.cell 6
      have e7 : V4.cell? ⟨D, 7, none⟩ = some (.slice ea le ec) := HD4.out.cell 7
      have e8 : V4.cell? ⟨D, 8, none⟩ = some (.slice ra lr rc) := HD4.out.cell 8
      have z0 : V4.cell? ⟨R, 0, none⟩ = some (.int .i64 0) := HR4.out.cell 0
      have y0 := HR4.out.frozen 0
      have z1 : V4.cell? ⟨R, 1, none⟩ = some (.int .i64 0) := HR4.out.cell 1
      have y1 := HR4.out.frozen 1
      have z2 : V4.cell? ⟨R, 2, none⟩ = some (.int .i64 0) := HR4.out.cell 2
      have y2 := HR4.out.frozen 2
      have z3 : V4.cell? ⟨R, 3, none⟩ = some (.int .i64 0) := HR4.out.cell 3
      have y3 := HR4.out.frozen 3
      have z4 : V4.cell? ⟨R, 4, none⟩ = some (.int .i64 0) := HR4.out.cell 4
      have y4 := HR4.out.frozen 4
      have z5 : V4.cell? ⟨R, 5, none⟩ = some (.int .i64 0) := HR4.out.cell 5
      have y5 := HR4.out.frozen 5
      have z6 : V4.cell? ⟨R, 6, none⟩ = some (.string ⟨#[]⟩) := HR4.out.cell 6
      have y6 := HR4.out.frozen 6
      have z7 : V4.cell? ⟨R, 7, none⟩ = some (.slice none 0 0) := HR4.out.cell 7
      have y7 := HR4.out.frozen 7
      have z8 : V4.cell? ⟨R, 8, none⟩ = some (.slice none 0 0) := HR4.out.cell 8
      have y8 := HR4.out.frozen 8
      have HRV4 := hide (show R < V.heap.size from Nat.lt_trans HDL.out HVL.out)
      go_wp2
      refine bodyPost_ret (results_cell_row rfl _ _ R 38 _ (0, 0) _ rfl (blk_over9 HR4.out _ _ _ _ _ _ _ _ _) Try.underlying38 rfl (by kernel_rfl)) rfl (HFin.out ⟨⟨2, 0, ⟨ino, ikind, ilinks, isize, it, es, rs⟩⟩, .slice ea le ec, .slice ra lr rc⟩ _ _ _ _ rfl ⟨wf_i64 (by simp) (by simp), wf_i64 (by simp) (by simp), HWI.out.no, HWI.out.kind, HWI.out.links, HWI.out.size, HWI.out.t, rfl, rfl⟩ ?_ ?_ (Blk.kept HB4.out (grown9 _ _ _ _ _ _ _ _ _ _ _) (fun e => HNE.out e.symm)) ?_ ?_)
      · exact (HE4.out.grown (grown9 _ _ _ _ _ _ _ _ _ _ _) (fun j e => by cases e; exact HRV4.out)).mono (Nat.le_of_lt HRV4.out)
      · exact (HV4.out.grown (grown9 _ _ _ _ _ _ _ _ _ _ _) (fun j e => by cases e; exact HRV4.out)).mono (Nat.le_of_lt HRV4.out)
      · exact grown_mix HG4.out (grown9 _ _ _ _ _ _ _ _ _ _ _) (fun j e => by cases e; rw [HAE.out]; exact Nat.le_refl _)
      · rw [if_neg (by decide)]; exact HX.out
    · have HK1 := hide (show k < 1 ∨ 4 < k by omega)
      have h1 : (k == 1) = false := by simp; omega
      have h2 : (k == 2) = false := by simp; omega
      have h3 : (k == 3) = false := by simp; omega
      have h4 : (k == 4) = false := by simp; omega
      have HKW := hide (show (Lit.int .i64 k).wf = true from wf_i64 (by omega) (by omega))
      clear HX1 HX2 HI HN hkk hk2
      have p2 : V.cell? ⟨P, 2, none⟩ = some (.int .i64 0) := HB2.out.cell 2
      have pf := HB2.out.frozen 2
      have HD4 := hide (HD2.out.kept (grown_setCell V P 2 (.int .i64 5)) HND.out)
      have HR4 := hide (HR2.out.kept (grown_setCell V P 2 (.int .i64 5)) HNE.out)
      have HB4 := hide (show Blk (V.setCell ⟨P, 2, none⟩ (.int .i64 5)) P #[b, .int .i64 ((a + 1 : Nat) : Int), .int .i64 5] 53 from HB2.out.set 2 (.int .i64 5))
      have HG4 := hide (grown_trans HG2.out (grown_setCell V P 2 (.int .i64 5)))
      clear HB2 HR2 HD2 HG2
      clear hk0 hk1
      go_upto_region 10 with fail
      generalize V.setCell ⟨P, 2, none⟩ (.int .i64 5) = V4 at *
      clear d0 p2 pf
      have e0 : V4.cell? ⟨D, 0, none⟩ = some (.int .i64 k) := HD4.out.cell 0
      have e1 : V4.cell? ⟨D, 1, none⟩ = some (.int .i64 0) := HD4.out.cell 1
      have e2 : V4.cell? ⟨D, 2, none⟩ = some (.int .i64 0) := HD4.out.cell 2
      have e3 : V4.cell? ⟨D, 3, none⟩ = some (.int .i64 0) := HD4.out.cell 3
      have e4 : V4.cell? ⟨D, 4, none⟩ = some (.int .i64 0) := HD4.out.cell 4
      have e5 : V4.cell? ⟨D, 5, none⟩ = some (.int .i64 0) := HD4.out.cell 5
      have e6 : V4.cell? ⟨D, 6, none⟩ = some (.string ⟨#[]⟩) := HD4.out.cell 6
      have e7 : V4.cell? ⟨D, 7, none⟩ = some (.slice none 0 0) := HD4.out.cell 7
      have e8 : V4.cell? ⟨D, 8, none⟩ = some (.slice none 0 0) := HD4.out.cell 8
      have z0 : V4.cell? ⟨R, 0, none⟩ = some (.int .i64 0) := HR4.out.cell 0
      have y0 := HR4.out.frozen 0
      have z1 : V4.cell? ⟨R, 1, none⟩ = some (.int .i64 0) := HR4.out.cell 1
      have y1 := HR4.out.frozen 1
      have z2 : V4.cell? ⟨R, 2, none⟩ = some (.int .i64 0) := HR4.out.cell 2
      have y2 := HR4.out.frozen 2
      have z3 : V4.cell? ⟨R, 3, none⟩ = some (.int .i64 0) := HR4.out.cell 3
      have y3 := HR4.out.frozen 3
      have z4 : V4.cell? ⟨R, 4, none⟩ = some (.int .i64 0) := HR4.out.cell 4
      have y4 := HR4.out.frozen 4
      have z5 : V4.cell? ⟨R, 5, none⟩ = some (.int .i64 0) := HR4.out.cell 5
      have y5 := HR4.out.frozen 5
      have z6 : V4.cell? ⟨R, 6, none⟩ = some (.string ⟨#[]⟩) := HR4.out.cell 6
      have y6 := HR4.out.frozen 6
      have z7 : V4.cell? ⟨R, 7, none⟩ = some (.slice none 0 0) := HR4.out.cell 7
      have y7 := HR4.out.frozen 7
      have z8 : V4.cell? ⟨R, 8, none⟩ = some (.slice none 0 0) := HR4.out.cell 8
      have y8 := HR4.out.frozen 8
      go_wp2
      refine bodyPost_ret (results_cell_row rfl _ _ R 38 _ (0, 0) _ rfl (blk_over9 HR4.out _ _ _ _ _ _ _ _ _) Try.underlying38 rfl (by kernel_rfl)) rfl (HFin.out ⟨⟨k, 0, noI⟩, .slice none 0 0, .slice none 0 0⟩ _ _ _ _ rfl (dv_num HKW.out (wf_i64 (by decide) (by decide))) (EOwn.nil _ _) (ROwn.nil _ _) (Blk.kept HB4.out (grown9 _ _ _ _ _ _ _ _ _ _ _) (fun e => HNE.out e.symm)) ?_ ?_)
      · exact grown_mix HG4.out (grown9 _ _ _ _ _ _ _ _ _ _ _) (fun j e => by cases e; rw [HAE.out]; exact Nat.le_refl _)
      · rw [if_pos HK1.out]
end Go.Proofs.Ytgkmgpjhpplkiaa

/-
  The program's Parse.
-/
namespace Go.Proofs.Ytgkmgpjhpplkiaa
open Go.RowKit
set_option linter.unusedVariables false
set_option maxRecDepth 100000

theorem app_cons (m : List Dd) (d : Dd) (r : List Dd × Int) : appD m (consD d r) = appD (m ++ [d]) r := by
  unfold appD consD
  by_cases h : r.2 = 0
  · simp [h]
  · simp [h]
theorem un_step {xs : List Int} {a n : Nat} {x : Dd} {at' er : Int} (ha : a < xs.length) (h : NextD xs a x at' er) :
    (er ≠ 0 → unS (n + 1) (xs.drop a) = ([], er)) ∧ (er = 0 → ∃ a' : Nat, at' = a' ∧ a + 1 ≤ a' ∧ a' ≤ xs.length ∧ unS (n + 1) (xs.drop a) = consD x (unS n (xs.drop a'))) := by
  rw [drop_cons ha, unS]
  unfold NextD at h
  by_cases hk : xs.getD a 0 < 1 ∨ 4 < xs.getD a 0
  · rw [if_pos hk] at h
    subst h
    rw [if_pos hk]
    exact ⟨fun _ => rfl, fun e => by cases e⟩
  · rw [if_neg hk] at h
    rw [if_neg hk]
    unfold NextP at h
    cases hd : deedD (xs.getD a 0) (xs.drop (a + 1)) with
    | none =>
      rw [hd] at h
      dsimp only at h ⊢
      subst h
      exact ⟨fun _ => rfl, fun e => by cases e⟩
    | some p =>
      rw [hd] at h
      dsimp only at h ⊢
      obtain ⟨rfl, rfl, a', h1, h2, h3, h4⟩ := h
      exact ⟨fun e => absurd rfl e, fun _ => ⟨a', h1, h3, h4, by rw [h2]⟩⟩

theorem EOwn.beside {base : Nat} {w w' : World} {u v : Value} {n : Nat} {xs : List Value} {l : List En} (h : EOwn base w v l) (ho : w.ownsRow base 38 9 u n xs) (hg : w.grownBy w' u.ownBlock) : EOwn base w' v l := by
  refine ⟨h.1.kept hg ?_, h.2⟩
  rcases h.1.2 with ⟨hn, _⟩ | ⟨g, cap, cur, hv, hbg, hh, _⟩
  · exact .inl (by rw [hn]; rfl)
  · right
    rcases ho.2 with ⟨hn, _⟩ | ⟨g', cap', cur', hu, _, hh', _⟩
    · rw [hv, hn]; simp [Value.ownBlock]
    · rw [hv, hu]
      intro e
      have e' : g = g' := by simpa [Value.ownBlock] using e
      rw [e', hh'] at hh
      simp only [Option.some.injEq, Obj.cells.injEq] at hh
      exact absurd hh.2.1 (by decide)
theorem ROwn.beside {base : Nat} {w w' : World} {u v : Value} {n : Nat} {xs : List Value} {l : List Rn} (h : ROwn base w v l) (ho : w.ownsRow base 38 9 u n xs) (hg : w.grownBy w' u.ownBlock) : ROwn base w' v l := by
  refine ⟨h.1.kept hg ?_, h.2⟩
  rcases h.1.2 with ⟨hn, _⟩ | ⟨g, cap, cur, hv, hbg, hh, _⟩
  · exact .inl (by rw [hn]; rfl)
  · right
    rcases ho.2 with ⟨hn, _⟩ | ⟨g', cap', cur', hu, _, hh', _⟩
    · rw [hv, hn]; simp [Value.ownBlock]
    · rw [hv, hu]
      intro e
      have e' : g = g' := by simpa [Value.ownBlock] using e
      rw [e', hh'] at hh
      simp only [Option.some.injEq, Obj.cells.injEq] at hh
      exact absurd hh.2.1 (by decide)
/-- Deeds that the call made, with all that hangs on them. -/
def DMade (base : Nat) (w : World) (v : Value) (l : List Dv) : Prop :=
  (w.ownsRow base 38 9 v l.length (flatD l) ∧ ∀ x ∈ l, x.Wf) ∧ ∀ x ∈ l, EOwn base w x.ev x.d.x.es ∧ ROwn base w x.rv x.d.x.rs
theorem DMade.nil (base : Nat) (w : World) : DMade base w (.slice none 0 0) [] := ⟨⟨World.ownsRow_nil _ _ _ _, fun r h => by cases h⟩, fun r h => by cases h⟩
theorem DMade.own {base : Nat} {w : World} {v : Value} {l : List Dv} (h : DMade base w v l) : DOwn base w v l :=
  ⟨h.1, fun x hx => ⟨⟨(h.2 x hx).1.row, (h.2 x hx).2.row⟩, .inr ((h.2 x hx).1.apart _), .inr ((h.2 x hx).2.apart _)⟩⟩
theorem DMade.kept {base : Nat} {w w' : World} {v : Value} {l : List Dv} (h : DMade base w v l) (hb : Below w.heap.size w w') : DMade base w' v l :=
  ⟨⟨h.1.1.kept (row := none) ⟨hb.os, hb.tape, hb.output, hb.size, fun k hk _ => hb.block k hk⟩ (by cases hv : v.ownBlock <;> simp), h.1.2⟩, fun x hx => ⟨(h.2 x hx).1.kept hb, (h.2 x hx).2.kept hb⟩⟩
theorem DMade.grown {base : Nat} {w w' : World} {v : Value} {l : List Dv} {r : Option Nat} (h : DMade base w v l) (hg : w.grownBy w' r) (hr : ∀ k, r = some k → k < base) : DMade base w' v l := by
  refine ⟨⟨h.1.1.kept hg ?_, h.1.2⟩, fun x hx => ⟨(h.2 x hx).1.grown hg hr, (h.2 x hx).2.grown hg hr⟩⟩
  cases hv : v.ownBlock with
  | none => exact .inl rfl
  | some k =>
    right
    intro e
    have h1 := (h.own.block k hv).1
    have h2 := hr k e.symm
    omega
theorem DMade.mono {base base' : Nat} {w : World} {v : Value} {l : List Dv} (h : DMade base w v l) (hb : base' ≤ base) : DMade base' w v l := by
  refine ⟨⟨⟨h.1.1.1, ?_⟩, h.1.2⟩, fun x hx => ⟨(h.2 x hx).1.mono hb, (h.2 x hx).2.mono hb⟩⟩
  rcases h.1.1.2 with hn | ⟨g, cap, cur, hv, hbg, r⟩
  · exact .inl hn
  · exact .inr ⟨g, cap, cur, hv, Nat.le_trans hb hbg, r⟩
/-- append of one deed. -/
theorem DMade.more {base : Nat} {w w' : World} {v v' : Value} {l : List Dv} {x : Dv} (h : DMade base w v l) (he : EOwn base w x.ev x.d.x.es) (hr : ROwn base w x.rv x.d.x.rs) (ho : DOwn base w' v' (l ++ [x])) (hg : w.grownBy w' v.ownBlock) : DMade base w' v' (l ++ [x]) := by
  refine ⟨ho.1, fun y hy => ?_⟩
  rcases List.mem_append.1 hy with h' | h'
  · exact ⟨(h.2 y h').1.beside h.1.1 hg, (h.2 y h').2.beside h.1.1 hg⟩
  · rw [List.mem_singleton] at h'
    subst h'
    exact ⟨he.beside h.1.1 hg, hr.beside h.1.1 hg⟩
/-- One deed in a new block. -/
theorem deed_new (w : World) (x : Dv) (h : x.Wf) (hr : x.Reads w) (cs : Array Value) (t : TypeId) (hcs : cs.toList = x.cells) : DRow (w.alloc (.cells cs t)) (.slice (some ⟨w.heap.size, 0, none⟩) 1 1) [x] := by
  refine ⟨⟨⟨_, 1, rfl, Nat.le_refl _, by unfold maxLen; omega, by simp, fun a ha i r hr j u hu => ?_⟩, fun r hr => by rw [List.mem_singleton] at hr; subst hr; exact h⟩, fun r hr' => by rw [List.mem_singleton] at hr'; subst hr'; exact hr.below (kl_alloc _ _)⟩
  obtain rfl := Option.some.inj ha
  have hi : i = 0 := by have := (List.getElem?_eq_some_iff.1 hr).1; simpa using this
  subst hi
  simp at hr
  subst hr
  rw [Addr.add_lit, (Blk.new w cs t).cell, ← Array.getElem?_toList, hcs]
  simpa using hu

/-- Answers such deeds, and an error. -/
def SaysL (r : List Dd × Int) (w : World) (e : Ending) (w' : World) : Prop := ∃ (u : Value) (ds : List Dv), e = .returned (.tuple #[u, .int .i64 r.2]) ∧ DMade w.heap.size w' u ds ∧ ds.map Dv.d = r.1 ∧ Below w.heap.size w w'

set_option maxHeartbeats 8000000 in
theorem Parse_any (w : World) (b : Value) (xs : List Int) (hr : Row w b xs) (hx : xs.length ≤ 1000000) :
    Calls Try.prog 11 #[b] w (SaysL (parseS xs) w) := by
  obtain ⟨ao, cap, hv⟩ := hr.of_len
  have HFin := hide (fun (u : Value) (ds : List Dv) (er : Int) (e : Ending) (w' : World) (h1 : e = .returned (.tuple #[u, .int .i64 er])) (h2 : DMade w.heap.size w' u ds) (h3 : (ds.map Dv.d, er) = parseS xs) (h4 : Below w.heap.size w w') => (show SaysL (parseS xs) w e w' from ⟨u, ds, by rw [← h3]; exact h1, h2, by rw [← h3], h4⟩))
  have HPS := hide (show parseS xs = appD [] (unS (xs.length + 1) (xs.drop 0)) by rw [app_nil (un_err _ _)]; rfl)
  generalize hG : SaysL (parseS xs) w = G at *
  clear hG
  have HX := hide hx
  have HR := hide hr
  obtain ⟨len, hL⟩ : ∃ n, xs.length = n := ⟨_, rfl⟩
  have HL := hide hL
  rw [hL] at hv
  have hlm : len ≤ 1000000 := by omega
  subst hv
  clear hr hx hL
  have hba := kl_alloc w (.cells #[.slice ao len cap, .int .i64 0, .int .i64 0] 53)
  have HB0 := hide (show RdQ _ _ (.slice ao len cap) ⟨((0 : Nat) : Int), false⟩ from Blk.new w #[.slice ao len cap, .int .i64 0, .int .i64 0] 53)
  have HG0 := hide hba
  have HZ0 := hide (show (w.alloc (.cells #[.slice ao len cap, .int .i64 0, .int .i64 0] 53)).heap.size = w.heap.size + 1 by simp)
  clear hba
  go_enter Try.func11, Try.ntmps11
  go_wp2
  generalize w.alloc (.cells #[.slice ao len cap, .int .i64 0, .int .i64 0] 53) = W0 at *
  have HRW := hide (fun w' (hg : W0.grownBy w' (some w.heap.size)) => HR.out.below (show Below w.heap.size w w' from ⟨hg.os.trans HG0.out.os, hg.tape.trans HG0.out.tape, hg.output.trans HG0.out.output, Nat.le_trans HG0.out.size hg.size, fun k hk => (hg.block k (by have := HZ0.out; omega) (by simp; omega)).trans (HG0.out.block k hk)⟩))
  generalize hA : w.heap.size = P at *
  have HAE := hide hA
  clear hA HR
  go_loopw [4] (fun u wr => ∃ (a n : Nat) (ds : List Dv), Hid (a ≤ xs.length) ∧ Hid (xs.length < a + n) ∧ Hid (ds.length ≤ a) ∧ Hid (RdQ wr P (.slice ao len cap) ⟨(a : Int), false⟩) ∧ Hid (W0.grownBy wr (some P)) ∧ Hid (DMade (P + 1) wr u ds) ∧ Hid (parseS xs = appD (ds.map Dv.d) (unS n (xs.drop a)))) (fun u wr => len - (intOf ((wr.cell? ⟨P, 1, none⟩).getD (.int .i64 0))).toNat)
  case atStart => exact ⟨0, xs.length + 1, [], hide (Nat.zero_le _), hide (by omega), hide (by simp), HB0, hide (World.grownBy.refl _ _), hide (DMade.nil _ _), HPS⟩
  case round =>
    obtain ⟨a, n, ds, HA, HN, HDL, HB, HG, HD, HP⟩ := hrel
    have c1 : wr.cell? ⟨P, 1, none⟩ = some (.int .i64 (a : Int)) := HB.out.cell 1
    by_cases hal : a < len
    · have hal' : (a : Int) < len := by omega
      have hax : a < xs.length := by rw [HL.out]; exact hal
      have HC := hide (PDeed_any wr P (.slice ao len cap) xs a HB.out (fun w' hg => HRW.out w' (grown_trans HG.out hg)) hax HX.out)
      have HU := hide (fun m x at' er (h : NextD xs a x at' er) => un_step (n := m) hax h)
      have HSZ := hide (show P + 1 ≤ wr.heap.size by rw [← HZ0.out]; exact HG.out.size)
      go_wp2_with fail
      refine HC.out.mono ?_
      rintro e w1 ⟨x, at', er, rfl, hwf, hev, hrv, hq, hg, hnx⟩
      have HNX := hide (HU.out (n - 1) _ _ _ hnx)
      obtain ⟨⟨kk, nn, ⟨no, kind, links, size, t, es, rs⟩⟩, ev, rv⟩ := x
      dsimp only at hev hrv
      obtain ⟨ea, ec, hea⟩ := hev.row.of_len
      obtain ⟨ra, rc, hra⟩ := hrv.row.of_len
      generalize es.length = le at hea
      generalize rs.length = lr at hra
      subst hea hra
      have HWF := hide hwf
      have HEV := hide (hev.mono HSZ.out)
      have HRV := hide (hrv.mono HSZ.out)
      have HB1 := hide hq
      have HG1 := hide (grown_trans HG.out hg)
      have HD1 := hide (HD.out.grown hg (fun k e => by cases e; omega))
      have HSZ1 := hide (Nat.le_trans HSZ.out hg.size)
      clear hwf hev hrv hq hg hnx HC HU HB HG HD HSZ
      have hba := kl_alloc w1 (.cells #[.int .i64 kk, .int .i64 nn, .int .i64 no, .int .i64 kind, .int .i64 links, .int .i64 size, .string t, .slice ea le ec, .slice ra lr rc] 38)
      have HDB := hide (Blk.new w1 #[.int .i64 kk, .int .i64 nn, .int .i64 no, .int .i64 kind, .int .i64 links, .int .i64 size, .string t, .slice ea le ec, .slice ra lr rc] 38)
      have HB2 := hide (kl_blk hba HB1.out)
      have HG2 := hide (grown_trans HG1.out (below_grown hba (some P)))
      have HD2 := hide (HD1.out.kept hba)
      have HEV2 := hide (HEV.out.kept hba)
      have HRV2 := hide (HRV.out.kept hba)
      have HSZ2 := hide (Nat.le_trans HSZ1.out hba.size)
      clear hba HB1 HG1 HD1 HEV HRV
      simp only [Dv.cells]
      go_upto_region 5 with fail
      generalize w1.alloc (.cells #[.int .i64 kk, .int .i64 nn, .int .i64 no, .int .i64 kind, .int .i64 links, .int .i64 size, .string t, .slice ea le ec, .slice ra lr rc] 38) = V at *
      generalize hD : w1.heap.size = D at *
      clear hD HSZ1
      have p2 : V.cell? ⟨P, 2, none⟩ = some (.int .i64 er) := HB2.out.cell 2
      by_cases her : er = 0
      · subst her
        obtain ⟨a', ha1, ha2, ha3, ha4⟩ := HNX.out.2 rfl
        have HHA := hide (And.intro ha2 (And.intro ha3 ha4))
        subst ha1
        clear ha2 ha3 ha4
        have e0 : V.cell? ⟨D, 0, none⟩ = some (.int .i64 kk) := HDB.out.cell 0
        have e1 : V.cell? ⟨D, 1, none⟩ = some (.int .i64 nn) := HDB.out.cell 1
        have e2 : V.cell? ⟨D, 2, none⟩ = some (.int .i64 no) := HDB.out.cell 2
        have e3 : V.cell? ⟨D, 3, none⟩ = some (.int .i64 kind) := HDB.out.cell 3
        have e4 : V.cell? ⟨D, 4, none⟩ = some (.int .i64 links) := HDB.out.cell 4
        have e5 : V.cell? ⟨D, 5, none⟩ = some (.int .i64 size) := HDB.out.cell 5
        have e6 : V.cell? ⟨D, 6, none⟩ = some (.string t) := HDB.out.cell 6
        have e7 : V.cell? ⟨D, 7, none⟩ = some (.slice ea le ec) := HDB.out.cell 7
        have e8 : V.cell? ⟨D, 8, none⟩ = some (.slice ra lr rc) := HDB.out.cell 8
        have HRow := hide (show DRow (V.alloc (.cells #[.int .i64 kk, .int .i64 nn, .int .i64 no, .int .i64 kind, .int .i64 links, .int .i64 size, .string t, .slice ea le ec, .slice ra lr rc] 38)) (.slice (some ⟨V.heap.size, 0, none⟩) 1 1) [⟨⟨kk, nn, ⟨no, kind, links, size, t, es, rs⟩⟩, .slice ea le ec, .slice ra lr rc⟩] from deed_new V _ HWF.out ⟨HEV2.out.row, HRV2.out.row⟩ _ _ rfl)
        have hba := kl_alloc V (.cells #[.int .i64 kk, .int .i64 nn, .int .i64 no, .int .i64 kind, .int .i64 links, .int .i64 size, .string t, .slice ea le ec, .slice ra lr rc] 38)
        have HB3 := hide (kl_blk hba HB2.out)
        have HG3 := hide (grown_trans HG2.out (below_grown hba (some P)))
        have HD3 := hide (HD2.out.kept hba)
        have HEV3 := hide (HEV2.out.kept hba)
        have HRV3 := hide (HRV2.out.kept hba)
        have HSZ3 := hide (Nat.le_trans HSZ2.out hba.size)
        have HF := hide (show ds.length + [(⟨⟨kk, nn, ⟨no, kind, links, size, t, es, rs⟩⟩, .slice ea le ec, .slice ra lr rc⟩ : Dv)].length ≤ 1000000000000 by have h1 := HDL.out; have h2 := HA.out; have h3 := HX.out; simp; omega)
        clear hba
        go_wp2_with (at_builtin; refine wpList_append_deeds rfl _ _ rfl (P + 1) _ _ ds [⟨⟨kk, nn, ⟨no, kind, links, size, t, es, rs⟩⟩, .slice ea le ec, .slice ra lr rc⟩] rfl HD3.out.own rfl HRow.out (by intro y hy; rw [List.mem_singleton] at hy; subst hy; exact ⟨.inr (HEV3.out.apart _), .inr (HRV3.out.apart _)⟩) HF.out HSZ3.out ?_)
        intro u4 w4 ho4 hg4
        have HD4 := hide (HD3.out.more HEV3.out HRV3.out ho4 hg4)
        have HB4 := hide (show RdQ w4 P (.slice ao len cap) ⟨(a' : Int), false⟩ from Blk.kept HB3.out hg4 (fun e => by have h1 := (HD3.out.own.block P e.symm).1; omega))
        have HG4 := hide (grown_mix HG3.out hg4 (fun j e => by have h1 := (HD3.out.own.block j e).1; have h2 := HZ0.out; omega))
        have c4 : w4.cell? ⟨P, 1, none⟩ = some (.int .i64 (a' : Int)) := HB4.out.cell 1
        have HQ4 := hide (show parseS xs = appD ((ds ++ [(⟨⟨kk, nn, ⟨no, kind, links, size, t, es, rs⟩⟩, .slice ea le ec, .slice ra lr rc⟩ : Dv)]).map Dv.d) (unS (n - 1) (xs.drop a')) by
          have h1 := HP.out
          have h2 := HHA.out.2.2
          have h3 : n - 1 + 1 = n := by have := HN.out; have := HA.out; omega
          rw [h3] at h2
          rw [h1, h2, app_cons, List.map_append]
          rfl)
        clear ho4 hg4 e0 e1 e2 e3 e4 e5 e6 e7 e8
        have HM := hide (show len - a' < len - a by have h1 := HHA.out.1; omega)
        go_wp2
        exact ⟨⟨a', n - 1, _, hide HHA.out.2.1, hide (by have h1 := HN.out; have h2 := HHA.out.1; omega), hide (by have h1 := HDL.out; have h2 := HHA.out.1; simp; omega), HB4, HG4, HD4, HQ4⟩, by rw [c1, c4]; simp only [Option.getD_some, intOf]; exact HM.out⟩
      · have hne : (er == 0) = false := by simpa using her
        have hne' : (er != 0) = true := by simpa using her
        have HE := hide (show ([], er) = parseS xs by
          have h1 := HP.out
          have h2 := HNX.out.1 her
          have h3 : n - 1 + 1 = n := by have := HN.out; have := HA.out; omega
          rw [h3] at h2
          rw [h1, h2]
          unfold appD
          rw [if_neg her])
        clear her
        have HBL := hide (show Below P w V from ⟨HG2.out.os.trans HG0.out.os, HG2.out.tape.trans HG0.out.tape, HG2.out.output.trans HG0.out.output, Nat.le_trans HG0.out.size HG2.out.size, fun k hk => (HG2.out.block k (by have := HZ0.out; omega) (by simp; omega)).trans (HG0.out.block k hk)⟩)
        go_wp2_with fail
        go_region
        all_goals go_wp2
        all_goals exact HFin.out _ [] _ _ _ rfl (DMade.nil _ _) HE.out (HBL.out.trans ((kl_drew _).mono (by have := HSZ2.out; omega)))
    · have hal2 : ¬ ((a : Int) < len) := by omega
      have HE := hide (show (ds.map Dv.d, (0 : Int)) = parseS xs by
        have h1 := HP.out
        obtain ⟨m, rfl⟩ : ∃ m, n = m + 1 := ⟨n - 1, by have := HN.out; have := HA.out; omega⟩
        have ha : a = xs.length := by have := HA.out; rw [HL.out] at this ⊢; omega
        rw [h1, ha, List.drop_length, un_nil]
        simp [appD])
      have HBL := hide (show Below P w wr from ⟨HG.out.os.trans HG0.out.os, HG.out.tape.trans HG0.out.tape, HG.out.output.trans HG0.out.output, Nat.le_trans HG0.out.size HG.out.size, fun k hk => (HG.out.block k (by have := HZ0.out; omega) (by simp; omega)).trans (HG0.out.block k hk)⟩)
      go_wp2
      exact HFin.out _ ds _ _ _ rfl (HD.out.mono (Nat.le_succ _)) HE.out HBL.out
end Go.Proofs.Ytgkmgpjhpplkiaa

/-
  The laws of pack: awake.
-/
namespace Go.Proofs.Ytgkmgpjhpplkiaa
open Go.RowKit
set_option linter.unusedVariables false
set_option maxRecDepth 100000

theorem DMade.row {base : Nat} {w : World} {v : Value} {l : List Dv} (h : DMade base w v l) : DRow w v l := h.own.row
theorem parse_awake : parseS (packL [⟨4, 5, noI⟩]) = ([⟨4, 5, noI⟩], 0) := parse_pack (by intro d hd; rw [List.mem_singleton] at hd; subst hd; exact .inl ⟨by simp, by unfold In64; simp, rfl⟩)

set_option maxHeartbeats 4000000 in
theorem awake_any (w : World) : Calls Try.prog 9 #[] w (SaysB true w) := by
  have hw0 : DRow (w.alloc (.cells #[.int .i64 4, .int .i64 5, .int .i64 0, .int .i64 0, .int .i64 0, .int .i64 0, .string ByteArray.empty, .slice none 0 0, .slice none 0 0] 38)) (.slice (some ⟨w.heap.size, 0, none⟩) 1 1) [⟨⟨4, 5, noI⟩, .slice none 0 0, .slice none 0 0⟩] :=
    deed_new w _ (dv_num (wf_i64 (by decide) (by decide)) (wf_i64 (by decide) (by decide))) ⟨ERow.nil w, RRow.nil w⟩ _ _ rfl
  have HB0 := hide (kl_alloc w (.cells #[.int .i64 4, .int .i64 5, .int .i64 0, .int .i64 0, .int .i64 0, .int .i64 0, .string ByteArray.empty, .slice none 0 0, .slice none 0 0] 38))
  have hC := Deeds_any _ _ _ hw0 (by show (packL [⟨4, 5, noI⟩]).length ≤ 1000000; decide)
  have hp := parse_awake
  clear hw0
  obtain ⟨X, hX⟩ : ∃ X, X = packL [⟨4, 5, noI⟩] := ⟨_, rfl⟩
  have hXl : X.length ≤ 1000000 := by rw [hX]; decide
  rw [← hX] at hp
  rw [show packL ([(⟨⟨4, 5, noI⟩, .slice none 0 0, .slice none 0 0⟩ : Dv)].map Dv.d) = X from hX.symm] at hC
  have HC := hide hC
  clear hX hC
  have HP := hide hp
  have HL := hide hXl
  clear hp hXl
  go_enter Try.func9, Try.ntmps9
  go_wp2_with fail
  refine HC.out.mono ?_
  rintro e w1 ⟨u1, rfl, ho1, hb1⟩
  have HB1 := hide (kl_step hb1 HB0.out)
  have HC2 := hide (Parse_any w1 u1 X ho1.row HL.out)
  rw [HP.out] at HC2
  clear HC HB0 ho1 hb1
  go_wp2_with fail
  refine HC2.out.mono ?_
  rintro e w2 ⟨u2, ds, rfl, hd, hm, hb2⟩
  have HB2 := hide (kl_step hb2 HB1.out)
  obtain ⟨x, hx⟩ : ∃ x, ds = [x] := by
    have := congrArg List.length hm
    simp at this
    exact List.length_eq_one_iff.1 this
  subst hx
  simp at hm
  have hlen := hd.row.lenRun
  simp only [List.length_singleton] at hlen
  obtain ⟨b, o, hlt, hidx, hc⟩ := hd.row.idx 0 (by simp)
  have c1 : w2.cell? ⟨b, o + 1, none⟩ = some (.int .i64 5) := hc 1 _ (by simp [hm, Dv.cells])
  have hidx0 : ∀ w', (Instr.indexAt 22 u2 (.int .i64 0)).run Try.prog w' = .ok (.pointer (some ⟨b, o, none⟩)) w' := hidx
  clear hc hm hd hb2 HC2 hidx
  go_wp2
  (try go_ret)
  exact ⟨rfl, HB2.out⟩
end Go.Proofs.Ytgkmgpjhpplkiaa

/-
  Cuts of rows of entries, as equations; copy of entries into a block; what a row that the call owns is in its block.
-/
namespace Go.Proofs.Ytgkmgpjhpplkiaa
open Go.RowKit
set_option linter.unusedVariables false
set_option maxRecDepth 100000

theorem ecut_from (ao : Option Addr) (n c k : Nat) (hk : k ≤ n) (w' : World) : (Instr.sliceAt 33 (.slice ao n c) (some (.int .i64 (k : Int))) none none).run Try.prog w' = .ok (sliced ao k n c 2) w' := by
  rw [run_sliceAt_slice _ _ _ _ _ _ entsTy, run_slice_l _ _ _ _ _ entsTy .i64 k (by omega) (by omega), sizeEn]
  simp [Result.andThen]
theorem ecut_upto (ao : Option Addr) (n c k : Nat) (hk : k ≤ c) (w' : World) : (Instr.sliceAt 33 (.slice ao n c) none (some (.int .i64 (k : Int))) none).run Try.prog w' = .ok (sliced ao 0 k c 2) w' := by
  rw [run_sliceAt_slice _ _ _ _ _ _ entsTy, run_slice_h _ _ _ _ _ entsTy .i64 k (by omega) (by omega), sizeEn]
  simp [Result.andThen]
theorem ecut_btw (ao : Option Addr) (n c i j : Nat) (hi : i ≤ j) (hj : j ≤ c) (w' : World) : (Instr.sliceAt 33 (.slice ao n c) (some (.int .i64 (i : Int))) (some (.int .i64 (j : Int))) none).run Try.prog w' = .ok (sliced ao i j c 2) w' := by
  rw [run_sliceAt_slice _ _ _ _ _ _ entsTy, run_slice_lh _ _ _ _ _ entsTy .i64 .i64 i j (by omega) (by omega) (by omega), sizeEn]
  simp [Result.andThen]
theorem ecut_three (ao : Option Addr) (n c i j m : Nat) (hi : i ≤ j) (hj : j ≤ m) (hm : m ≤ c) (w' : World) : (Instr.sliceAt 33 (.slice ao n c) (some (.int .i64 (i : Int))) (some (.int .i64 (j : Int))) (some (.int .i64 (m : Int)))).run Try.prog w' = .ok (sliced ao i j m 2) w' := by
  rw [run_sliceAt_slice _ _ _ _ _ _ entsTy, run_slice_lhm _ _ _ _ _ entsTy .i64 .i64 .i64 i j m (by omega) (by omega) (by omega) (by omega), sizeEn]
  simp [Result.andThen]
theorem sliced_in (b o k j c : Nat) (h : c ≠ k) : sliced (some ⟨b, o, none⟩) k j c 2 = .slice (some ⟨b, o + k * 2, none⟩) (j - k) (c - k) := by
  unfold sliced
  rw [if_neg h]
  simp [Addr.add_lit]
theorem sliced_zero (b o j c : Nat) : sliced (some ⟨b, o, none⟩) 0 j c 2 = .slice (some ⟨b, o, none⟩) j c := by
  unfold sliced
  split <;> simp [Addr.add_lit]
theorem ecapRun (ao : Option Addr) (n c : Nat) (w' : World) (ty : TypeId) : (Builtin.cap_ #[33] ty #[.slice ao n c]).run Try.prog w' = .ok (.int .i64 (c : Int)) w' := by
  simp [Builtin.cap_, run_underlying entsTy, goInt]
theorem elenRun (ao : Option Addr) (n c : Nat) (w' : World) (ty : TypeId) : (Builtin.len_ #[33] ty #[.slice ao n c]).run Try.prog w' = .ok (.int .i64 (n : Int)) w' := by
  simp [Builtin.len_, run_underlying entsTy, goInt]

/-- A part of a row of entries. -/
theorem ERow.sub {w : World} {v : Value} {l : List En} (h : ERow w v l) (i j : Nat) (hij : i ≤ j) (hj : j ≤ l.length) :
    ∃ ao cap, v = .slice ao l.length cap ∧ l.length ≤ cap ∧ ERow w (sliced ao i j cap 2) ((l.drop i).take (j - i)) := by
  have hwf : ∀ r ∈ (l.drop i).take (j - i), r.Wf := fun r hr => h.2 r (List.mem_of_mem_drop (List.mem_of_mem_take hr))
  have hl : ((l.drop i).take (j - i)).length = j - i := by simp; omega
  obtain ⟨⟨ao, cap, rfl, h1, h2, h3, h4⟩, _⟩ := h
  refine ⟨ao, cap, rfl, h1, ⟨(if cap = i then ao else ao.map (·.add (i * 2))), cap - i, ?_, by rw [hl]; omega, by omega, ?_, ?_⟩, hwf⟩
  · unfold sliced; rw [hl]
  · intro e
    by_cases hc : cap = i
    · omega
    · rw [if_neg hc] at e
      simp at e
      have := h3 e
      omega
  · intro a ha p x hx q u hu
    have hp : p < j - i := by rw [← hl]; exact (List.getElem?_eq_some_iff.1 hx).1
    rw [if_neg (by omega)] at ha
    cases ao with
    | none => cases ha
    | some ad =>
      obtain rfl := Option.some.inj ha
      have hx' : l[i + p]? = some x := by
        rw [List.getElem?_take_of_lt hp, List.getElem?_drop] at hx
        exact hx
      have := h4 ad rfl (i + p) x hx' q u hu
      rw [Deep.add_add, show i * 2 + (p * 2 + q) = (i + p) * 2 + q by omega]
      exact this
/-- 'l[k:]'. -/
theorem ERow.from {w : World} {v : Value} {l : List En} (h : ERow w v l) (k : Nat) (hk : k ≤ l.length) :
    ∃ v', (∀ w', (Instr.sliceAt 33 v (some (.int .i64 (k : Int))) none none).run Try.prog w' = .ok v' w') ∧ ERow w v' (l.drop k) := by
  obtain ⟨ao, cap, rfl, hc, hr⟩ := h.sub k l.length hk (Nat.le_refl _)
  exact ⟨_, fun w' => ecut_from ao _ cap k hk w', by rwa [List.take_of_length_le (by simp)] at hr⟩
/-- 'l[:k]'. -/
theorem ERow.upto {w : World} {v : Value} {l : List En} (h : ERow w v l) (k : Nat) (hk : k ≤ l.length) :
    ∃ v', (∀ w', (Instr.sliceAt 33 v none (some (.int .i64 (k : Int))) none).run Try.prog w' = .ok v' w') ∧ ERow w v' (l.take k) := by
  obtain ⟨ao, cap, rfl, hc, hr⟩ := h.sub 0 k (Nat.zero_le _) hk
  exact ⟨_, fun w' => ecut_upto ao _ cap k (by omega) w', by simpa using hr⟩

/-! ### copy into a block -/
theorem run_copyE (w : World) (ty : TypeId) (g o dLen dCap : Nat) (a : Addr) (sLen sCap : Nat) (cur : Array Value) (t : TypeId) (cs : List Value)
    (hg : Blk w g cur t) (hn : cs.length = Nat.min sLen dLen * 2) (hsrc : ∀ j v, cs[j]? = some v → w.cell? (a.add j) = some v) (hfit : o + cs.length ≤ cur.size) (h1 : ∀ v ∈ cs, v.oneCell' = true) :
    (Builtin.copy_ #[33, 33] ty #[.slice (some ⟨g, o, none⟩) dLen dCap, .slice (some a) sLen sCap]).run Try.prog w = .ok (goInt (Nat.min sLen dLen)) (w.setRow g (splice cur.toList o cs).toArray) := by
  have hf := run_firstCells_some (P := Try.prog) w 2 (Nat.min sLen dLen) a sLen sCap cs hn hsrc
  have hst := run_storeCells_at Try.prog g o t cs 0 cur w hg (by simpa using hfit) h1
  have hz := sizeEn w
  have e : (splice cur.toList o cs).toArray = (cur.toList.take (o + 0) ++ cs ++ cur.toList.drop (o + 0 + cs.length)).toArray := by simp [splice]
  rw [e]
  unfold Builtin.copy_
  simp [run_underlying entsTy, Builtin.lenOf, hz, hf, hst]
theorem blk_setRow {w : World} {g : Nat} {cur cs : Array Value} {t : TypeId} (h : Blk w g cur t) : Blk (w.setRow g cs) g cs t := setRow_heap w g cur cs t (0, 0) h
theorem grown_setRow (w : World) (g : Nat) (cs : Array Value) : w.grownBy (w.setRow g cs) (some g) := ⟨rfl, rfl, rfl, by simp [World.setRow], fun k hk hne => setRow_other w g k cs (fun e => hne (by rw [e]))⟩

/-- .. as one step of a region that draws. -/
theorem step_copyE {ops : Array Oper} {o : Oper} {a : Act} {w : World} {K : Act → World → Prop} {Q : Exit → Act → World → Prop} {E : Prop}
    (hg : o.guard = none) (d x : Operand) (dT sT : TypeId) (hop : o.op = Op.call { callee := Callee.builtin Builtin.copy, args := #[d, x], argTypes := #[dT, sT] })
    (v u : Value) (hd : a.eval d = v) (hx : a.eval x = u) {v' : Value} {w' : World} (hr : (Builtin.copy_ #[dT, sT] o.type #[v, u]).run Try.prog w = .ok v' w') (hK : K (a.put o.dst v') w') :
    if Region.wanted o (yielded ops a.tmps) = true then Oper.wp Try.prog o a w K Q else E := by
  rw [if_pos (by simp [Region.wanted, hg])]
  unfold Oper.wp
  simp [execOp, hop, resolve, invoke, builtin, hd, hx, hr, Result.andThen]
  exact hK

/-! ### rows and their blocks -/
theorem EOwn.open {base : Nat} {w : World} {v : Value} {l : List En} (h : EOwn base w v l) (h0 : 0 < l.length) :
    ∃ g cap cur, v = .slice (some ⟨g, 0, none⟩) l.length cap ∧ base ≤ g ∧ Blk w g cur 49 ∧ l.length ≤ cap ∧ cap ≤ maxLen ∧ cur.size = cap * 2 ∧ cur.toList.take (l.length * 2) = flatE l := by
  rcases h.1.2 with ⟨_, hn⟩ | ⟨g, cap, cur, h1, h2, h3, h4, h5, h6, h7⟩
  · omega
  · exact ⟨g, cap, cur, h1, h2, h3, h4, h5, h6, h7⟩
theorem EOwn.of_blk {base g cap : Nat} {w : World} {cur : Array Value} {l : List En} (hb : base ≤ g) (hB : Blk w g cur 49) (hn : l.length ≤ cap) (hc : cap ≤ maxLen) (hs : cur.size = cap * 2) (ht : cur.toList.take (l.length * 2) = flatE l) (hw : ∀ r ∈ l, r.Wf) :
    EOwn base w (.slice (some ⟨g, 0, none⟩) l.length cap) l :=
  ⟨⟨flatE_length l, .inr ⟨g, cap, cur, rfl, hb, hB, hn, hc, hs, ht⟩⟩, hw⟩
theorem flatE_take (l : List En) (k : Nat) : flatE (l.take k) = (flatE l).take (k * 2) := by
  induction l generalizing k with
  | nil => simp [flatE]
  | cons x t ih =>
    cases k with
    | zero => simp [flatE]
    | succ k =>
      rw [List.take_succ_cons, flatE_cons, flatE_cons, ih, List.take_append, show (En.cells x).length = 2 from rfl, show (k + 1) * 2 - 2 = k * 2 by omega]
      rw [List.take_of_length_le (show (En.cells x).length ≤ (k + 1) * 2 by show 2 ≤ _; omega)]
theorem flatE_drop (l : List En) (k : Nat) : flatE (l.drop k) = (flatE l).drop (k * 2) := by
  induction l generalizing k with
  | nil => simp [flatE]
  | cons x t ih =>
    cases k with
    | zero => simp
    | succ k =>
      rw [List.drop_succ_cons, flatE_cons, ih, List.drop_append, show (En.cells x).length = 2 from rfl, show (k + 1) * 2 - 2 = k * 2 by omega]
      rw [List.drop_of_length_le (show (En.cells x).length ≤ (k + 1) * 2 by show 2 ≤ _; omega), List.nil_append]
/-- A row in one block reads. -/
theorem erow_blk {w : World} {g : Nat} {cur : Array Value} {t : TypeId} {l : List En} {n c : Nat} (hB : Blk w g cur t) (hl : l.length = n) (hn : n ≤ c) (hc : c ≤ maxLen) (ht : cur.toList.take (n * 2) = flatE l) (hw : ∀ r ∈ l, r.Wf) : ERow w (.slice (some ⟨g, 0, none⟩) n c) l := by
  subst hl
  refine ⟨⟨_, c, rfl, hn, hc, by simp, fun a ha i x hx j u hu => ?_⟩, hw⟩
  obtain rfl := Option.some.inj ha
  have hj : j < 2 := by have := (List.getElem?_eq_some_iff.1 hu).1; simpa [En.cells] using this
  have hi := (List.getElem?_eq_some_iff.1 hx).1
  rw [Addr.add_lit, Nat.zero_add, hB.cell, ← Array.getElem?_toList]
  have := flatE_at hx j hj
  rw [← ht, List.getElem?_take_of_lt (by omega)] at this
  rw [this, hu]

theorem splice_shift {α : Type} (L F1 F2 X : List α) (hL : L.take (F1.length + F2.length) = F1 ++ F2) (hlen : F1.length + X.length + F2.length ≤ L.length) :
    splice (splice L (F1.length + X.length) F2) F1.length X = F1 ++ (X ++ (F2 ++ L.drop (F1.length + X.length + F2.length))) := by
  have e1 : L.take F1.length = F1 := by
    have : (L.take (F1.length + F2.length)).take F1.length = F1 := by rw [hL]; simp
    rwa [List.take_take, Nat.min_eq_left (by omega)] at this
  have e2 : (splice L (F1.length + X.length) F2).take F1.length = F1 := by
    unfold splice
    rw [List.take_append_of_le_length (by rw [List.length_take]; omega), List.take_take, Nat.min_eq_left (by omega), e1]
  have e3 : (splice L (F1.length + X.length) F2).drop (F1.length + X.length) = F2 ++ L.drop (F1.length + X.length + F2.length) := by
    unfold splice
    rw [List.drop_append_of_le_length (by rw [List.length_take]; omega), List.drop_of_length_le (by rw [List.length_take]; omega), List.nil_append]
  show (splice L (F1.length + X.length) F2).take F1.length ++ (X ++ (splice L (F1.length + X.length) F2).drop (F1.length + X.length)) = _
  rw [e2, e3]
theorem splice_fill {α : Type} (Z F1 F2 X : List α) (hZ : Z.take F1.length = F1) (hlen : F1.length + X.length + F2.length ≤ Z.length) :
    splice (splice Z F1.length X) (F1.length + X.length) F2 = F1 ++ (X ++ (F2 ++ Z.drop (F1.length + X.length + F2.length))) := by
  have e2 : (splice Z F1.length X).take (F1.length + X.length) = F1 ++ X := by
    unfold splice
    rw [hZ, ← List.append_assoc, List.take_append_of_le_length (by simp), List.take_of_length_le (by simp)]
  have e3 : (splice Z F1.length X).drop (F1.length + X.length + F2.length) = Z.drop (F1.length + X.length + F2.length) := by
    unfold splice
    rw [hZ, ← List.append_assoc, List.drop_append, List.drop_of_length_le (by simp), List.nil_append, List.drop_drop, List.length_append]
    congr 1
    omega
  show (splice Z F1.length X).take (F1.length + X.length) ++ (F2 ++ (splice Z F1.length X).drop (F1.length + X.length + F2.length)) = _
  rw [e2, e3, List.append_assoc]
end Go.Proofs.Ytgkmgpjhpplkiaa

/-
  Entries: the document's Find.
-/
namespace Go.Proofs.Ytgkmgpjhpplkiaa
open Go.RowKit
set_option linter.unusedVariables false
set_option maxRecDepth 100000

theorem above_more {l : List En} {s : List UInt8} {k : Nat} (h : ∀ j, j < k → ¬ s < bl (l.getD j default).s) (h2 : ¬ s < bl (l.getD k default).s) : ∀ j, j < k + 1 → ¬ s < bl (l.getD j default).s := by
  intro j hj
  by_cases e : j = k
  · subst e; exact h2
  · exact h j (by omega)

/-- An entry in a block of its own. -/
theorem one_row {w : World} {vb : Nat} {e : En} {t : TypeId} (h : Blk w vb #[.string e.s, .int .i64 e.n] t) (he : e.Wf) : ERow w (.slice (some ⟨vb, 0, none⟩) 1 1) [e] :=
  erow_blk h rfl (Nat.le_refl _) (by unfold maxLen; omega) rfl (fun r hr => by rw [List.mem_singleton.1 hr]; exact he)

/-- append of a row of entries to one that the call owns, as one step of a region that draws. -/
theorem step_append_ents {ops : Array Oper} {o : Oper} {a : Act} {w : World} {K : Act → World → Prop} {Q : Exit → Act → World → Prop} {E : Prop} (hw : Region.wanted o (yielded ops a.tmps) = true) (s x : Operand)
    (ho : o.op = .call { callee := .builtin .append, args := #[s, x], argTypes := #[33, 33] })
    (base : Nat) (v xv : Value) (xs ys : List En) (hs : a.eval s = v) (hown : EOwn base w v xs) (hx : a.eval x = xv) (hrow : ERow w xv ys) (hfit : xs.length + ys.length ≤ 1000000000000) (hbase : base ≤ w.heap.size)
    (hK : ∀ v' w', EOwn base w' v' (xs ++ ys) → w.grownBy w' v.ownBlock → K (a.put o.dst v') w') : if Region.wanted o (yielded ops a.tmps) = true then Oper.wp Try.prog o a w K Q else E := by
  rw [if_pos hw]
  obtain ⟨i0, hi, hz0, hz1, hz2⟩ := info_parts infoEn
  obtain ⟨⟨ao, cap, rfl, h1, h2, h3, h4⟩, hb⟩ := hrow
  have hwf : ∀ n ∈ xs ++ ys, n.Wf := by
    intro n hn
    rcases List.mem_append.1 hn with h' | h'
    · exact hown.2 n h'
    · exact hb n h'
  cases ao with
  | none =>
    have hc0 := h3 rfl
    have hl0 : ys = [] := List.eq_nil_of_length_eq_zero (by omega)
    subst hc0
    subst hl0
    have hrun := run_append_owned_none (P := Try.prog) (w := w) base 33 o.type 49 i0 2 Try.underlying33 hi v _ _ hown.1
    unfold Oper.wp
    simp [execOp, ho, resolve, invoke, builtin, hs, hx, hrun, Result.andThen]
    exact hK v w (by rw [List.append_nil]; exact hown) (World.grownBy.refl _ _)
  | some ad =>
    obtain ⟨v', w', hrun, r1, r2, _⟩ := run_append_own (P := Try.prog) (w := w) base 33 o.type 49 i0 (.agg #[.string ByteArray.empty, .int .i64 0]) 2 24 Try.underlying33 hi hz0 hz1 hz2 rfl (by decide) v _ _ hown.1 ad ys.length cap (flatE ys) (flatE_length ys) (fun j u hu => by
      obtain ⟨i, c, r, rfl, _, hr, hc⟩ := flatE_get hu
      exact h4 ad rfl i r hr c u hc) (flatE_one ys) (by unfold maxLen; omega) (by omega) hbase
    unfold Oper.wp
    simp [execOp, ho, resolve, invoke, builtin, hs, hx, hrun, Result.andThen]
    exact hK v' w' ⟨by rw [List.length_append, flatE_append]; exact r1, hwf⟩ r2

theorem add_step {b0 : Nat} {s : ByteArray} {w1 W W' : World} (hb : Below W.heap.size W W') (h : W.cell? ⟨b0, 0, none⟩ = some (.string s) ∧ Below w1.heap.size w1 W) : W'.cell? ⟨b0, 0, none⟩ = some (.string s) ∧ Below w1.heap.size w1 W' := ⟨kl_cell hb h.1, kl_step hb h.2⟩
theorem add_step2 {b0 : Nat} {s : ByteArray} {n : Int} {w1 W W' : World} (hb : Below W.heap.size W W') (h : (W.cell? ⟨b0, 0, none⟩ = some (.string s) ∧ W.cell? ⟨b0, 1, none⟩ = some (.int .i64 n)) ∧ Below w1.heap.size w1 W) :
    (W'.cell? ⟨b0, 0, none⟩ = some (.string s) ∧ W'.cell? ⟨b0, 1, none⟩ = some (.int .i64 n)) ∧ Below w1.heap.size w1 W' := ⟨⟨kl_cell hb h.1.1, kl_cell hb h.1.2⟩, kl_step hb h.2⟩

theorem add_step3 {b0 : Nat} {s : ByteArray} {n : Int} {w9 W W' : World} (hb : Below w9.heap.size W W') (hlt : b0 < w9.heap.size) (h : (W.cell? ⟨b0, 0, none⟩ = some (.string s) ∧ W.cell? ⟨b0, 1, none⟩ = some (.int .i64 n)) ∧ Below w9.heap.size w9 W) :
    (W'.cell? ⟨b0, 0, none⟩ = some (.string s) ∧ W'.cell? ⟨b0, 1, none⟩ = some (.int .i64 n)) ∧ Below w9.heap.size w9 W' := ⟨⟨(hb.cell (p := ⟨b0, 0, none⟩) hlt).trans h.1.1, (hb.cell (p := ⟨b0, 1, none⟩) hlt).trans h.1.2⟩, h.2.trans hb⟩
theorem findS_some {l : List En} {s : List UInt8} {i : Nat} (h : atS l s = some i) : findS l s = ((l.getD i default).n, true) := by unfold findS; rw [h]
theorem findS_none {l : List En} {s : List UInt8} (h : atS l s = none) : findS l s = (0, false) := by unfold findS; rw [h]

end Go.Proofs.Ytgkmgpjhpplkiaa

/-
  The document's reader: an inode.
-/
namespace Go.Proofs.Ytgkmgpjhpplkiaa
open Go.RowKit
set_option linter.unusedVariables false
set_option maxRecDepth 100000

/-- Such an inode, if nothing was missing. -/
def SaysX2 (P : Nat) (b : Value) (r : Ino × Rd) (w : World) (e : Ending) (w' : World) : Prop :=
  ∃ (x : Ino) (ev rv : Value), e = .returned (.agg (inoCells x ev rv)) ∧ InoWf x ∧ EOwn w.heap.size w' ev x.es ∧ ROwn w.heap.size w' rv x.rs ∧ RdB w' P b r.2 ∧ w.grownBy w' (some P) ∧ (r.2.bad = false → x = r.1)
theorem num_wf (xs : List Int) (s : Rd) : (Lit.int .i64 (rdNum xs s).1).wf = true := wrapI_wf _
theorem str_size (xs : List Int) (s : Rd) : (rdStr xs s).1.size ≤ xs.length := by
  show (strOfNums (textS xs s.at_).1).size ≤ _
  rw [strOfNums_size]
  exact textS_len _ _
/-- The parts of reading an inode, one behind the other. -/
theorem rdIno_eq (xs : List Int) (s : Rd) : rdIno xs s =
    (let s1 := (rdNum xs s).2; let s2 := (rdNum xs s1).2; let s3 := (rdNum xs s2).2; let s4 := (rdNum xs s3).2
     if s4.bad then (⟨(rdNum xs s).1, (rdNum xs s1).1, (rdNum xs s2).1, (rdNum xs s3).1, default, [], []⟩, s4)
     else let s5 := (rdStr xs s4).2
      if s5.bad then (⟨(rdNum xs s).1, (rdNum xs s1).1, (rdNum xs s2).1, (rdNum xs s3).1, (rdStr xs s4).1, [], []⟩, s5)
      else let s6 := (lenR xs (manyR (rdEnt xs)) s5).2
       if s6.bad then (⟨(rdNum xs s).1, (rdNum xs s1).1, (rdNum xs s2).1, (rdNum xs s3).1, (rdStr xs s4).1, (lenR xs (manyR (rdEnt xs)) s5).1, []⟩, s6)
       else (⟨(rdNum xs s).1, (rdNum xs s1).1, (rdNum xs s2).1, (rdNum xs s3).1, (rdStr xs s4).1, (lenR xs (manyR (rdEnt xs)) s5).1, (lenR xs (manyR (rdRun xs)) s6).1⟩, (lenR xs (manyR (rdRun xs)) s6).2)) := by
  dsimp only
  unfold rdIno mapR
  generalize lenR xs (manyR (rdEnt xs)) = E
  generalize lenR xs (manyR (rdRun xs)) = R
  unfold Proofs.Ytgkmgpjhpplkiaa.seqG
  simp only [seqR]
  by_cases h4 : (rdNum xs (rdNum xs (rdNum xs (rdNum xs s).2).2).2).2.bad = true
  · simp [h4]
    exact ⟨rfl, rfl⟩
  · by_cases h5 : (rdStr xs (rdNum xs (rdNum xs (rdNum xs (rdNum xs s).2).2).2).2).2.bad = true
    · simp [h4, h5]
      exact ⟨rfl, rfl⟩
    · by_cases h6 : (E (rdStr xs (rdNum xs (rdNum xs (rdNum xs (rdNum xs s).2).2).2).2).2).2.bad = true
      · simp [h4, h5, h6]
        rfl
      · simp [h4, h5, h6]
theorem EOwn.besideR {base : Nat} {w w' : World} {u v : Value} {n : Nat} {xs : List Value} {l : List En} (h : EOwn base w v l) (ho : w.ownsRow base 67 3 u n xs) (hg : w.grownBy w' u.ownBlock) : EOwn base w' v l := by
  refine ⟨h.1.kept hg ?_, h.2⟩
  rcases h.1.2 with ⟨hn, _⟩ | ⟨g, cap, cur, hv, hbg, hh, _⟩
  · exact .inl (by rw [hn]; rfl)
  · right
    rcases ho.2 with ⟨hn, _⟩ | ⟨g', cap', cur', hu, _, hh', _⟩
    · rw [hv, hn]; simp [Value.ownBlock]
    · rw [hv, hu]
      intro e
      have e' : g = g' := by simpa [Value.ownBlock] using e
      rw [e', hh'] at hh
      simp only [Option.some.injEq, Obj.cells.injEq] at hh
      exact absurd hh.2.1 (by decide)
/-- The reader, the answer's cell, and the inode in the making. -/
structure DI (w : World) (P : Nat) (b : Value) (R D : Nat) (wr : World) (s : Rd) (cs : Array Value) : Prop where
  rd : RdB wr P b s
  res : Blk wr R #[.int .i64 0, .int .i64 0, .int .i64 0, .int .i64 0, .string ⟨#[]⟩, .slice none 0 0, .slice none 0 0] 36
  dx : Blk wr D cs 36
  gr : w.grownBy wr (some P)
  pr : P < R
  rx : R < D
  sz : w.heap.size = R
theorem DI.call {w : World} {P : Nat} {b : Value} {R D : Nat} {wr w' : World} {s s' : Rd} {cs : Array Value} (h : DI w P b R D wr s cs) (hq : RdB w' P b s') (hg : wr.grownBy w' (some P)) : DI w P b R D w' s' cs :=
  ⟨hq, h.res.kept hg (by have := h.pr; simp; omega), h.dx.kept hg (by have := h.pr; have := h.rx; simp; omega), grown_trans h.gr hg, h.pr, h.rx, h.sz⟩
theorem DI.grow {w : World} {P : Nat} {b : Value} {R D : Nat} {wr w' : World} {s : Rd} {cs : Array Value} {r : Option Nat} (h : DI w P b R D wr s cs) (hg : wr.grownBy w' r) (hr : ∀ j, r = some j → D < j) : DI w P b R D w' s cs :=
  ⟨Blk.kept h.rd hg (fun e => by have := hr P e.symm; have := h.pr; have := h.rx; omega), h.res.kept hg (fun e => by have := hr R e.symm; have := h.rx; omega), h.dx.kept hg (fun e => by have := hr D e.symm; omega), grown_mix h.gr hg (fun j e => by have := hr j e; have := h.rx; have := h.sz; omega), h.pr, h.rx, h.sz⟩
theorem DI.store {w : World} {P : Nat} {b : Value} {R D : Nat} {wr : World} {s : Rd} {cs : Array Value} (h : DI w P b R D wr s cs) (i : Nat) (v : Value) : DI w P b R D (wr.setCell ⟨D, i, none⟩ v) s (cs.setIfInBounds i v) :=
  ⟨Blk.kept h.rd (grown_setCell wr D i v) (by have := h.pr; have := h.rx; simp; omega), h.res.kept (grown_setCell wr D i v) (by have := h.rx; simp; omega), h.dx.set i v, grown_mix h.gr (grown_setCell wr D i v) (fun j e => by cases e; have := h.rx; have := h.sz; omega), h.pr, h.rx, h.sz⟩
theorem DI.bad {w : World} {P : Nat} {b : Value} {R D : Nat} {wr : World} {s : Rd} {cs : Array Value} (h : DI w P b R D wr s cs) : wr.cell? ⟨P, 2, none⟩ = some (.bool s.bad) := h.rd.cell 2
theorem DI.size {w : World} {P : Nat} {b : Value} {R D : Nat} {wr : World} {s : Rd} {cs : Array Value} (h : DI w P b R D wr s cs) : D + 1 ≤ wr.heap.size := h.dx.lt
theorem many_bad {α : Type} (r : Rd → α × Rd) (n : Nat) (s : Rd) (h : s.bad = true) : manyR r n s = ([], s) := by
  cases n with
  | zero => rfl
  | succ n => unfold manyR; rw [if_pos h]
theorem many_more {α : Type} (r : Rd → α × Rd) (n : Nat) (s : Rd) (h : s.bad = false) : manyR r (n + 1) s = ((r s).1 :: (manyR r n (r s).2).1, (manyR r n (r s).2).2) := by
  rw [manyR, if_neg (by rw [h]; simp)]
theorem ent_bad (xs : List Int) (s : Rd) (h : (rdStr xs s).2.bad = true) : (rdEnt xs s).2 = (rdStr xs s).2 := by
  unfold rdEnt mapR Proofs.Ytgkmgpjhpplkiaa.seqG
  rw [if_pos h]
theorem ent_ok (xs : List Int) (s : Rd) (h : (rdStr xs s).2.bad = false) : rdEnt xs s = (⟨(rdStr xs s).1, (rdNum xs (rdStr xs s).2).1⟩, (rdNum xs (rdStr xs s).2).2) := by
  unfold rdEnt mapR Proofs.Ytgkmgpjhpplkiaa.seqG
  rw [if_neg (by rw [h]; simp)]
  rfl
theorem meas_lt {a : Int} {m : Nat} (h : a = m) : (intOf (.int .i64 a)).toNat < (intOf (.int .i64 ((m + 1 : Nat) : Int))).toNat := by
  subst h
  show ((m : Int)).toNat < (((m + 1 : Nat) : Int)).toNat
  omega
/-- The bodies of a code's loops, those within loops aside. -/
def loopsOf : Code → List Code
  | .loop c => [c]
  | .seq a b => loopsOf a ++ loopsOf b
  | .block _ c => loopsOf c
  | .scope c => loopsOf c
  | .cond _ a b => loopsOf a ++ loopsOf b
  | _ => []
noncomputable def inoLoop (n : Nat) : Code := (loopsOf (Try.f23.body.getD .skip)).getD n .skip
end Go.Proofs.Ytgkmgpjhpplkiaa

/-
  The document's reader: an inode; its loops, each by itself.
-/
namespace Go.Proofs.Ytgkmgpjhpplkiaa
open Go.RowKit
set_option linter.unusedVariables false
set_option maxRecDepth 100000

set_option maxHeartbeats 8000000 in
theorem RInode_loop1 (w : World) (P : Nat) (b : Value) (xs : List Int) (hr : RowP w P b xs) (hx : xs.length ≤ 1000000) (R D : Nat) (v0 v1 v2 v3 : Int) (tv : ByteArray) (n0 : Nat) (hmr : n0 ≤ 4294967295) (s6 : Rd) (hS6 : InS xs 8 s6) (w6 : World)
    (hd : DI w P b R D w6 s6 #[.int .i64 v0, .int .i64 v1, .int .i64 v2, .int .i64 v3, .string tv, .slice none 0 0, .slice none 0 0]) (G : Ending → World → Prop) (K0 : Act → World → Prop) (t1 t5 t6 t7 t8 t9 t10 t11 t12 t13 t14 t15 t16 t17 t18 t19 t20 t21 t22 t23 t24 t25 t26 t27 t28 t29 t30 t31 t32 t33 t34 t35 t36 t37 t38 t39 t40 t41 t42 t43 t44 t45 t46 t47 t48 t49 t50 t51 t52 t53 t54 t55 t56 t57 t58 t59 t60 t61 t62 t63 t64 t65 t66 t67 t68 t69 t70 t71 t72 t73 t74 t75 t76 t77 t78 t79 t80 t81 t82 t83 t84 t85 t86 t87 t88 t89 t90 t91 t92 t93 t94 t95 : Value)
    (hexit : ∀ (s : Rd) (acc : List En) (uo : Option Addr) (uc : Nat) (x4 x5 x35 x36 x37 x38 x39 x40 x41 x42 x43 x44 x45 x46 x47 x48 x49 x50 x51 x52 x53 x54 x55 x56 x57 x58 x59 x60 x61 : Value) (wr : World), DI w P b R D wr s #[.int .i64 v0, .int .i64 v1, .int .i64 v2, .int .i64 v3, .string tv, .slice uo acc.length uc, .slice none 0 0] → EOwn (D + 1) wr (.slice uo acc.length uc) acc → InS xs 8 s → (manyR (rdEnt xs) n0 s6).2 = s → ((manyR (rdEnt xs) n0 s6).2.bad = false → acc = (manyR (rdEnt xs) n0 s6).1) → K0 ⟨(.pointer (some ⟨P, 0, none⟩) :: t1 :: .pointer (some ⟨R, 0, none⟩) :: .pointer (some ⟨D, 0, none⟩) :: x4 :: x5 :: t6 :: t7 :: t8 :: t9 :: t10 :: t11 :: t12 :: t13 :: t14 :: t15 :: t16 :: t17 :: t18 :: t19 :: t20 :: t21 :: t22 :: t23 :: t24 :: t25 :: t26 :: t27 :: t28 :: t29 :: t30 :: t31 :: t32 :: t33 :: t34 :: x35 :: x36 :: x37 :: x38 :: x39 :: x40 :: x41 :: x42 :: x43 :: x44 :: x45 :: x46 :: x47 :: x48 :: x49 :: x50 :: x51 :: x52 :: x53 :: x54 :: x55 :: x56 :: x57 :: x58 :: x59 :: x60 :: x61 :: t62 :: t63 :: t64 :: t65 :: t66 :: t67 :: t68 :: t69 :: t70 :: t71 :: t72 :: t73 :: t74 :: t75 :: t76 :: t77 :: t78 :: t79 :: t80 :: t81 :: t82 :: t83 :: t84 :: t85 :: t86 :: t87 :: t88 :: t89 :: t90 :: t91 :: t92 :: t93 :: t94 :: t95 :: []).toArray, []⟩ wr) :
    Code.wp Try.prog (.loop (inoLoop 0)) (Exit.inBlock 0 (Exit.then K0 (bodyPost Try.prog Try.f23 G))) ⟨(.pointer (some ⟨P, 0, none⟩) :: t1 :: .pointer (some ⟨R, 0, none⟩) :: .pointer (some ⟨D, 0, none⟩) :: .int .i64 n0 :: t5 :: t6 :: t7 :: t8 :: t9 :: t10 :: t11 :: t12 :: t13 :: t14 :: t15 :: t16 :: t17 :: t18 :: t19 :: t20 :: t21 :: t22 :: t23 :: t24 :: t25 :: t26 :: t27 :: t28 :: t29 :: t30 :: t31 :: t32 :: t33 :: t34 :: t35 :: t36 :: t37 :: t38 :: t39 :: t40 :: t41 :: t42 :: t43 :: t44 :: t45 :: t46 :: t47 :: t48 :: t49 :: t50 :: t51 :: t52 :: t53 :: t54 :: t55 :: t56 :: t57 :: t58 :: t59 :: t60 :: t61 :: t62 :: t63 :: t64 :: t65 :: t66 :: t67 :: t68 :: t69 :: t70 :: t71 :: t72 :: t73 :: t74 :: t75 :: t76 :: t77 :: t78 :: t79 :: t80 :: t81 :: t82 :: t83 :: t84 :: t85 :: t86 :: t87 :: t88 :: t89 :: t90 :: t91 :: t92 :: t93 :: t94 :: t95 :: []).toArray, []⟩ w6 := by
  have hby := (hr w (World.grownBy.refl _ _)).bys
  have HBY := hide hby
  have HX := hide hx
  have HR := hide hr
  have HEX := hide hexit
  have HMR := hide hmr
  have HS6 := hide hS6
  have HDf := hide hd
  generalize hT : manyR (rdEnt xs) n0 s6 = T at *
  have HT := hide hT
  clear hby hx hr hexit hmr hS6 hd hT
  conv => arg 2; arg 1; whnf
  go_loopw [4] (fun c wr => ∃ (m : Nat) (s : Rd) (acc : List En) (uo : Option Addr) (uc : Nat), c = .int .i64 m ∧ Hid (m + acc.length ≤ 4294967295) ∧ Hid (DI w P b R D wr s #[.int .i64 v0, .int .i64 v1, .int .i64 v2, .int .i64 v3, .string tv, .slice uo acc.length uc, .slice none 0 0]) ∧ Hid (EOwn (D + 1) wr (.slice uo acc.length uc) acc) ∧ Hid (InS xs 8 s) ∧ Hid (T.2 = (manyR (rdEnt xs) m s).2) ∧ Hid (T.2.bad = false → acc ++ (manyR (rdEnt xs) m s).1 = T.1)) (fun c _ => (intOf c).toNat)
  case atStart => exact ⟨n0, s6, [], none, 0, rfl, hide (by have := HMR.out; simp; omega), HDf, hide (EOwn.nil _ _), HS6, hide (by rw [HT.out]), hide (by intro _; rw [HT.out]; rfl)⟩
  case round =>
    obtain ⟨m, s, acc, uo, uc, rfl, HMm, HD, HO, HS, HT2, HT1⟩ := hrel
    have cb : wr.cell? ⟨P, 2, none⟩ = some (.bool s.bad) := HD.out.bad
    go_upto_region 11 with fail
    go_cut [43] from 35 to 61 (fun c wx => c = .bool (decide (0 < m) && !s.bad) ∧ wx = wr)
    case first => 
      by_cases h1 : m = 0
      · subst h1
        go_wp2
        go_meet
        exact ⟨rfl, rfl⟩
      · have h1' : (0 : Int) < m := by omega
        have h1'' : decide (0 < m) = true := decide_eq_true (by omega)
        have H1 := hide h1''
        clear h1''
        cases hb : s.bad with
        | true =>
          rw [hb] at cb
          go_wp2
          go_meet
          exact ⟨congrArg Value.bool (by rw [H1.out, hb]; rfl), rfl⟩
        | false =>
          rw [hb] at cb
          go_wp2
          go_meet
          exact ⟨congrArg Value.bool (by rw [H1.out, hb]; rfl), rfl⟩
    case rest =>
      obtain ⟨hc, rfl⟩ := hcut
      by_cases hgo : 0 < m ∧ s.bad = false
      · obtain ⟨hm, hsb⟩ := hgo
        rw [decide_eq_true hm, hsb] at hc
        subst hc
        obtain ⟨m', rfl⟩ : ∃ m', m = m' + 1 := ⟨m - 1, by omega⟩
        have hs := HS.out
        have HTX := hide (fun w' (hb : RdB w' P b s) (hg : w.grownBy w' (some P)) => RText_any w' P b xs s hb (HR.out w' hg) hs.1 (by have := hs.2.1; have := HX.out; omega))
        have hTe : ∀ w', Calls Try.prog 36 #[.pointer (some ⟨P, 0, none⟩)] w' (SaysN (.string (rdStr xs s).1) P b (rdStr xs s).2 w') = Calls Try.prog 36 #[.pointer (some ⟨P, 0, none⟩)] w' (SaysN (.string (strOfNums (rdText xs s).1)) P b (rdText xs s).2 w') := fun w' => rfl
        simp only [← hTe] at HTX
        have hst : InS xs 0 (rdStr xs s).2 := ins_text HBY.out hs
        have hsz := str_size xs s
        have hEb := ent_bad xs s
        have hEo := ent_ok xs s
        have h2 := HT2.out
        have h1 := HT1.out
        rw [many_more _ _ _ hsb] at h2 h1
        dsimp only at h2 h1
        clear hTe HT2 HT1 hs
        generalize (rdStr xs s).1 = ts at *
        generalize (rdStr xs s).2 = sa at *
        have HEB := hide hEb
        have HEO := hide hEo
        have HH := hide (And.intro h2 h1)
        have HST := hide hst
        have HSZ := hide (show ts.size ≤ 1000000 by have := HX.out; omega)
        have hms : ((m' + 1 : Nat) : Int) - 1 = m' := by omega
        have HWR := hide (show wrap64 (m' : Int) = m' by have := HMm.out; exact IntWalk.wrap64_in _ (by omega))
        clear hEb hEo h2 h1 hst hsz cb
        go_wp2_with fail
        refine (HTX.out wc HD.out.rd HD.out.gr).mono ?_
        rintro e w7 ⟨rfl, hq, hg⟩
        have HD7 := hide (HD.out.call hq hg)
        have HO7 := hide (HO.out.grown hg (fun k e => by cases e; have := HD.out.pr; have := HD.out.rx; omega))
        clear hq hg HD HO HTX
        have cb : w7.cell? ⟨P, 2, none⟩ = some (.bool sa.bad) := HD7.out.bad
        cases hab : sa.bad with
        | true =>
          rw [hab] at cb
          have he := HEB.out hab
          have h2 := HH.out.1
          rw [he] at h2
          have h3 : T.2.bad = true := by rw [h2, many_bad _ _ _ hab]; exact hab
          have H2 := hide h2
          have H3 := hide h3
          have HSa := hide (HST.out.le (show 0 ≤ 8 by omega))
          clear he h2 h3
          go_wp2
          exact ⟨⟨m', sa, acc, uo, uc, by rw [HWR.out], hide (by have := HMm.out; omega), HD7, HO7, HSa, H2, hide (by intro h; rw [H3.out] at h; cases h)⟩, meas_lt HWR.out⟩
        | false =>
          rw [hab] at cb
          have he := HEO.out hab
          have h2 := HH.out.1
          have h1 := HH.out.2
          rw [he] at h2 h1
          have hsa := HST.out
          have HN15 := hide (fun w' (hb : RdB w' P b sa) (hg : w.grownBy w' (some P)) => RNumber_any w' P b xs sa hb (HR.out w' hg) hsa.1 (by have := hsa.2.1; have := HX.out; omega))
          have hsb2 := ins_num hsa
          have hnw := num_wf xs sa
          dsimp only at h2 h1
          generalize (rdNum xs sa).1 = nv at *
          generalize (rdNum xs sa).2 = sb at *
          have H2 := hide h2
          have H1 := hide h1
          have HSB := hide hsb2
          have HEW := hide (show (⟨ts, nv⟩ : En).Wf from ⟨by unfold maxLen; have := HSZ.out; dsimp only; omega, hnw⟩)
          have HF := hide (show acc.length + [(⟨ts, nv⟩ : En)].length ≤ 1000000000000 by have := HMm.out; simp; omega)
          clear he h2 h1 hsa hsb2 hnw HH HEB HEO
          have x5 : w7.cell? ⟨D, 5, none⟩ = some (.slice uo acc.length uc) := HD7.out.dx.cell 5
          have HZ7 := hide HD7.out.size
          go_wp2_with fail
          go_region_law (first
            | (refine step_append_ents (by rfl) _ _ (by rfl) (D + 1) (.slice uo acc.length uc) _ acc [⟨ts, nv⟩] (by rfl) (HO9.out.alloc _) (by rfl) (ents_new _ [⟨ts, nv⟩] _ _ 1 rfl rfl (by simp) (by intro r hr; rw [List.mem_singleton] at hr; subst hr; exact HEW.out)) HF.out (by have := HD9.out.size; simp; omega) ?_
               intro u10 w10 ho10 hg10
               have HD10 := hide ((HD9.out.grow (World.grownBy_alloc _ _ none) (by simp)).grow hg10 (fun j e => by have := (HO9.out.block j e).1; omega))
               have HO10 := hide ho10
               obtain ⟨u10o, u10c, hu10⟩ := ho10.row.of_len
               subst hu10
               have y5 : w10.cell? ⟨D, 5, none⟩ = some (.slice uo acc.length uc) := HD10.out.dx.cell 5
               have g5 := HD10.out.dx.frozen 5
               clear ho10 hg10)
            | (go_simp; go_at_call 22
               refine (HN15.out _ (kl_blk (kl_drew _) HD7.out.rd) (grown_trans HD7.out.gr (grown_drew _ _))).mono ?_
               rintro e9 w9 ⟨rfl, hq9, hg9⟩
               have HD9 := hide ((HD7.out.grow (grown_drew _ none) (by simp)).call hq9 hg9)
               have HO9 := hide (EOwn.grown (EOwn.kept HO7.out (kl_drew _)) hg9 (fun k e => by cases e; have := HD7.out.pr; have := HD7.out.rx; omega))
               have y5 : w9.cell? ⟨D, 5, none⟩ = some (.slice uo acc.length uc) := HD9.out.dx.cell 5
               have hz9 : D < w9.heap.size := HD9.out.size
               clear hq9 hg9)
            | fail)
          all_goals
            have hl : (acc ++ [(⟨ts, nv⟩ : En)]).length = acc.length + 1 := by simp
            have HDn := hide (show DI w P b R D (w10.setCell ⟨D, 5, none⟩ (.slice u10o (acc.length + 1) u10c)) sb #[.int .i64 v0, .int .i64 v1, .int .i64 v2, .int .i64 v3, .string tv, .slice u10o (acc ++ [(⟨ts, nv⟩ : En)]).length u10c, .slice none 0 0] from by rw [hl]; exact HD10.out.store 5 (.slice u10o (acc.length + 1) u10c))
            have HOn := hide (HO10.out.grown (grown_setCell w10 D 5 (.slice u10o (acc.length + 1) u10c)) (fun k e => by cases e; exact Nat.lt_succ_self _))
            clear hl HD10 HO10 HD9 HO9 y5 g5
            go_wp2
            exact ⟨⟨m', sb, acc ++ [⟨ts, nv⟩], u10o, u10c, by rw [HWR.out], hide (by have := HMm.out; simp; omega), HDn, HOn, HSB, H2, hide (fun h => by rw [← H1.out h, List.append_assoc]; rfl)⟩, meas_lt HWR.out⟩
      · have hmz : manyR (rdEnt xs) m s = ([], s) := by
          by_cases h0 : m = 0
          · subst h0; rfl
          · exact many_bad _ _ _ (by cases h : s.bad with | true => rfl | false => exact absurd ⟨by omega, h⟩ hgo)
        have hcf : (decide (0 < m) && !s.bad) = false := by
          cases h : s.bad with
          | true => simp
          | false => simp; by_cases h0 : m = 0; exact h0; exact absurd ⟨by omega, h⟩ hgo
        rw [hcf] at hc
        subst hc
        have h2 := HT2.out
        have h1 := HT1.out
        rw [hmz] at h2 h1
        dsimp only at h2 h1
        rw [List.append_nil] at h1
        have HTa := hide h2
        have HTb := hide h1
        clear h2 h1 hmz hcf hgo HT2 HT1
        go_wp2
        exact HEX.out s acc uo uc _ _ _ _ _ _ _ _ _ _ _ _ _ _ _ _ _ _ _ _ _ _ _ _ _ _ _ _ _ wc HD.out HO.out HS.out HTa.out (fun h => HTb.out h)
end Go.Proofs.Ytgkmgpjhpplkiaa

/-
  The document's reader: an inode; its loops, each by itself.
-/
namespace Go.Proofs.Ytgkmgpjhpplkiaa
open Go.RowKit
set_option linter.unusedVariables false
set_option maxRecDepth 100000

set_option maxHeartbeats 8000000 in
theorem RInode_loop2 (w : World) (P : Nat) (b : Value) (xs : List Int) (hr : RowP w P b xs) (hx : xs.length ≤ 1000000) (R D : Nat) (v0 v1 v2 v3 : Int) (tv : ByteArray) (uo : Option Addr) (al uc : Nat) (acc : List En) (n1 : Nat) (hmr : n1 ≤ 4294967295) (s7 : Rd) (hS7 : InS xs 32 s7) (w8 : World)
    (hd : DI w P b R D w8 s7 #[.int .i64 v0, .int .i64 v1, .int .i64 v2, .int .i64 v3, .string tv, .slice uo al uc, .slice none 0 0]) (ho : EOwn (D + 1) w8 (.slice uo al uc) acc) (Q0 : Exit → Act → World → Prop) (t1 t4 t5 t7 t8 t9 t10 t11 t12 t13 t14 t15 t16 t17 t18 t19 t20 t21 t22 t23 t24 t25 t26 t27 t28 t29 t30 t31 t32 t33 t34 t35 t36 t37 t38 t39 t40 t41 t42 t43 t44 t45 t46 t47 t48 t49 t50 t51 t52 t53 t54 t55 t56 t57 t58 t59 t60 t61 t62 t63 t64 t65 t66 t67 t68 t69 t70 t71 t72 t73 t74 t75 t76 t77 t78 t79 t80 t81 t82 t83 t84 t85 t86 t87 t88 t89 t90 t91 t92 t93 t94 t95 : Value)
    (hexit : ∀ (s : Rd) (racc : List Rn) (ro : Option Addr) (rc : Nat) (x6 x7 x69 x70 x71 x72 x73 x74 x75 x76 x77 x78 x79 x80 x81 x82 x83 x84 x85 x86 x87 x88 x89 x90 x91 x92 x93 x94 : Value) (wr : World), DI w P b R D wr s #[.int .i64 v0, .int .i64 v1, .int .i64 v2, .int .i64 v3, .string tv, .slice uo al uc, .slice ro racc.length rc] → EOwn (D + 1) wr (.slice uo al uc) acc → ROwn (D + 1) wr (.slice ro racc.length rc) racc → (manyR (rdRun xs) n1 s7).2 = s → ((manyR (rdRun xs) n1 s7).2.bad = false → racc = (manyR (rdRun xs) n1 s7).1) → Q0 (.exit 2) ⟨(.pointer (some ⟨P, 0, none⟩) :: t1 :: .pointer (some ⟨R, 0, none⟩) :: .pointer (some ⟨D, 0, none⟩) :: t4 :: t5 :: x6 :: x7 :: t8 :: t9 :: t10 :: t11 :: t12 :: t13 :: t14 :: t15 :: t16 :: t17 :: t18 :: t19 :: t20 :: t21 :: t22 :: t23 :: t24 :: t25 :: t26 :: t27 :: t28 :: t29 :: t30 :: t31 :: t32 :: t33 :: t34 :: t35 :: t36 :: t37 :: t38 :: t39 :: t40 :: t41 :: t42 :: t43 :: t44 :: t45 :: t46 :: t47 :: t48 :: t49 :: t50 :: t51 :: t52 :: t53 :: t54 :: t55 :: t56 :: t57 :: t58 :: t59 :: t60 :: t61 :: t62 :: t63 :: t64 :: t65 :: t66 :: t67 :: t68 :: x69 :: x70 :: x71 :: x72 :: x73 :: x74 :: x75 :: x76 :: x77 :: x78 :: x79 :: x80 :: x81 :: x82 :: x83 :: x84 :: x85 :: x86 :: x87 :: x88 :: x89 :: x90 :: x91 :: x92 :: x93 :: x94 :: t95 :: []).toArray, []⟩ wr) :
    Code.wp Try.prog (.loop (inoLoop 1)) Q0 ⟨(.pointer (some ⟨P, 0, none⟩) :: t1 :: .pointer (some ⟨R, 0, none⟩) :: .pointer (some ⟨D, 0, none⟩) :: t4 :: t5 :: .int .i64 n1 :: t7 :: t8 :: t9 :: t10 :: t11 :: t12 :: t13 :: t14 :: t15 :: t16 :: t17 :: t18 :: t19 :: t20 :: t21 :: t22 :: t23 :: t24 :: t25 :: t26 :: t27 :: t28 :: t29 :: t30 :: t31 :: t32 :: t33 :: t34 :: t35 :: t36 :: t37 :: t38 :: t39 :: t40 :: t41 :: t42 :: t43 :: t44 :: t45 :: t46 :: t47 :: t48 :: t49 :: t50 :: t51 :: t52 :: t53 :: t54 :: t55 :: t56 :: t57 :: t58 :: t59 :: t60 :: t61 :: t62 :: t63 :: t64 :: t65 :: t66 :: t67 :: t68 :: t69 :: t70 :: t71 :: t72 :: t73 :: t74 :: t75 :: t76 :: t77 :: t78 :: t79 :: t80 :: t81 :: t82 :: t83 :: t84 :: t85 :: t86 :: t87 :: t88 :: t89 :: t90 :: t91 :: t92 :: t93 :: t94 :: t95 :: []).toArray, []⟩ w8 := by
  have hby := (hr w (World.grownBy.refl _ _)).bys
  have HBY := hide hby
  have HX := hide hx
  have HR := hide hr
  have HEX := hide hexit
  have HMR2 := hide hmr
  have HS7 := hide hS7
  have HD8 := hide hd
  have HO8 := hide ho
  generalize hT : manyR (rdRun xs) n1 s7 = T2 at *
  have HT' := hide hT
  clear hby hx hr hexit hmr hS7 hd ho hT
  conv => arg 2; arg 1; whnf
  go_loopw [6] (fun c wr => ∃ (m : Nat) (s : Rd) (racc : List Rn) (ro : Option Addr) (rc : Nat), c = .int .i64 m ∧ Hid (m + racc.length ≤ 4294967295) ∧ Hid (DI w P b R D wr s #[.int .i64 v0, .int .i64 v1, .int .i64 v2, .int .i64 v3, .string tv, .slice uo al uc, .slice ro racc.length rc]) ∧ Hid (EOwn (D + 1) wr (.slice uo al uc) acc) ∧ Hid (ROwn (D + 1) wr (.slice ro racc.length rc) racc) ∧ Hid (InS xs 32 s) ∧ Hid (T2.2 = (manyR (rdRun xs) m s).2) ∧ Hid (T2.2.bad = false → racc ++ (manyR (rdRun xs) m s).1 = T2.1)) (fun c _ => (intOf c).toNat)
  case atStart => exact ⟨n1, s7, [], none, 0, rfl, hide (by have := HMR2.out; simp; omega), HD8, HO8, hide (ROwn.nil _ _), HS7, hide (by rw [HT'.out]), hide (by intro _; rw [HT'.out]; rfl)⟩
  case round =>
    obtain ⟨m, s, racc, ro, rc, rfl, HMm, HD, HOe, HO, HS, HT2, HT1⟩ := hrel
    have cb : wr.cell? ⟨P, 2, none⟩ = some (.bool s.bad) := HD.out.bad
    go_upto_region 19 with fail
    go_cut [77] from 69 to 94 (fun c wx => c = .bool (decide (0 < m) && !s.bad) ∧ wx = wr)
    case first => 
      by_cases h1 : m = 0
      · subst h1
        go_wp2
        go_meet
        exact ⟨rfl, rfl⟩
      · have h1' : (0 : Int) < m := by omega
        have h1'' : decide (0 < m) = true := decide_eq_true (by omega)
        have H1 := hide h1''
        clear h1''
        cases hb : s.bad with
        | true =>
          rw [hb] at cb
          go_wp2
          go_meet
          exact ⟨congrArg Value.bool (by rw [H1.out, hb]; rfl), rfl⟩
        | false =>
          rw [hb] at cb
          go_wp2
          go_meet
          exact ⟨congrArg Value.bool (by rw [H1.out, hb]; rfl), rfl⟩
    case rest =>
      obtain ⟨hc, rfl⟩ := hcut
      by_cases hgo : 0 < m ∧ s.bad = false
      · obtain ⟨hm, hsb⟩ := hgo
        rw [decide_eq_true hm, hsb] at hc
        subst hc
        obtain ⟨m', rfl⟩ : ∃ m', m = m' + 1 := ⟨m - 1, by omega⟩
        have hs := HS.out
        have hs0 : InS xs 0 s := ⟨hs.1, by have := hs.2.2 hsb; omega, hs.2.2⟩
        have h2 := HT2.out
        have h1 := HT1.out
        rw [many_more _ _ _ hsb] at h2 h1
        have hr1 : rdRun xs s = (⟨(rdNum xs s).1, (rdNum xs (rdNum xs s).2).1, (rdNum xs (rdNum xs (rdNum xs s).2).2).1⟩, (rdNum xs (rdNum xs (rdNum xs s).2).2).2) := rfl
        rw [hr1] at h2 h1
        dsimp only at h2 h1
        have HN1 := hide (fun w' (hb : RdB w' P b s) (hg : w.grownBy w' (some P)) => RNumber_any w' P b xs s hb (HR.out w' hg) hs0.1 (by have := hs0.2.1; have := HX.out; omega))
        have hsa := ins_num hs0
        have hwa := num_wf xs s
        generalize (rdNum xs s).1 = ra at *
        generalize (rdNum xs s).2 = sa at *
        have HN2 := hide (fun w' (hb : RdB w' P b sa) (hg : w.grownBy w' (some P)) => RNumber_any w' P b xs sa hb (HR.out w' hg) hsa.1 (by have := hsa.2.1; have := HX.out; omega))
        have hsb' := ins_num hsa
        have hwb := num_wf xs sa
        generalize (rdNum xs sa).1 = rb at *
        generalize (rdNum xs sa).2 = sb at *
        have HN3 := hide (fun w' (hb : RdB w' P b sb) (hg : w.grownBy w' (some P)) => RNumber_any w' P b xs sb hb (HR.out w' hg) hsb'.1 (by have := hsb'.2.1; have := HX.out; omega))
        have hsc := ins_num hsb'
        have hwc := num_wf xs sb
        generalize (rdNum xs sb).1 = rn at *
        generalize (rdNum xs sb).2 = sc at *
        have H2 := hide h2
        have H1 := hide h1
        have HSC := hide (hsc.le (show 0 + 8 + 8 + 8 ≤ 32 by omega))
        have HRW := hide (show (⟨ra, rb, rn⟩ : Rn).Wf from ⟨hwa, hwb, hwc⟩)
        have HF := hide (show racc.length + [(⟨ra, rb, rn⟩ : Rn)].length ≤ 1000000000000 by have := HMm.out; simp; omega)
        have HWR := hide (show wrap64 (m' : Int) = m' by have := HMm.out; exact IntWalk.wrap64_in _ (by omega))
        have hms : ((m' + 1 : Nat) : Int) - 1 = m' := by omega
        have HPD := hide (show P < D + 1 by have := HD.out.pr; have := HD.out.rx; omega)
        clear hs hs0 h2 h1 hr1 hsa hsb' hsc hwa hwb hwc HT2 HT1 HS cb
        go_wp2_with fail
        refine (HN1.out wc HD.out.rd HD.out.gr).mono ?_
        rintro e w9 ⟨rfl, hq, hg⟩
        have HD9 := hide (HD.out.call hq hg)
        have HOe9 := hide (HOe.out.grown hg (fun k e => by cases e; exact HPD.out))
        have HO9 := hide (HO.out.grown hg (fun k e => by cases e; exact HPD.out))
        clear hq hg HD HOe HO HN1
        have HDa := hide (HD9.out.grow (World.grownBy_alloc w9 (.cells #[.int .i64 ra, .int .i64 0, .int .i64 0] 67) none) (by simp))
        have HGa := hide (World.grownBy_alloc w9 (.cells #[.int .i64 ra, .int .i64 0, .int .i64 0] 67) (some P))
        have HUa := hide (Blk.new w9 #[.int .i64 ra, .int .i64 0, .int .i64 0] 67)
        have HDU := hide (show D < w9.heap.size from HD9.out.size)
        go_upto_region 22 with fail
        generalize w9.alloc (.cells #[.int .i64 ra, .int .i64 0, .int .i64 0] 67) = Va at *
        have HU9 := hide (Nat.le_refl w9.heap.size)
        generalize hU : w9.heap.size = U at HUa HDU ⊢
        have HUe := hide hU
        clear hU
        have HPU := hide (show some U ≠ some P by intro e; have e' := Option.some.inj e; have := HDU.out; have := HPD.out; omega)
        go_wp2_with fail
        refine (HN2.out Va HDa.out.rd HDa.out.gr).mono ?_
        rintro e w10 ⟨rfl, hq, hg⟩
        have HDb := hide (HDa.out.call hq hg)
        have HGb := hide (grown_trans HGa.out hg)
        have HUb := hide (HUa.out.kept hg HPU.out)
        clear hq hg HDa HGa HUa HN2
        have q1 : w10.cell? ⟨U, 1, none⟩ = some (.int .i64 0) := HUb.out.cell 1
        have p1 := HUb.out.frozen 1
        have HUc := hide (show Blk _ U #[.int .i64 ra, .int .i64 rb, .int .i64 0] _ from HUb.out.set 1 (.int .i64 rb))
        have HDc := hide (HDb.out.grow (grown_setCell w10 U 1 (.int .i64 rb)) (fun j e => by cases e; exact HDU.out))
        have HGc := hide (grown_mix HGb.out (grown_setCell w10 U 1 (.int .i64 rb)) (fun j e => by cases e; rw [HUe.out]; exact Nat.le_refl _))
        clear HUb HDb HGb
        go_upto_region 23 with fail
        generalize w10.setCell ⟨U, 1, none⟩ (.int .i64 rb) = Vc at *
        clear q1 p1
        go_wp2_with fail
        refine (HN3.out Vc HDc.out.rd HDc.out.gr).mono ?_
        rintro e w11 ⟨rfl, hq, hg⟩
        have HDd := hide (HDc.out.call hq hg)
        have HGd := hide (grown_trans HGc.out hg)
        have HUd := hide (HUc.out.kept hg HPU.out)
        clear hq hg HDc HGc HUc HN3
        have q2 : w11.cell? ⟨U, 2, none⟩ = some (.int .i64 0) := HUd.out.cell 2
        have p2 := HUd.out.frozen 2
        have HUe2 := hide (show Blk _ U #[.int .i64 ra, .int .i64 rb, .int .i64 rn] _ from HUd.out.set 2 (.int .i64 rn))
        have HDe2 := hide (HDd.out.grow (grown_setCell w11 U 2 (.int .i64 rn)) (fun j e => by cases e; exact HDU.out))
        have HGe := hide (grown_mix HGd.out (grown_setCell w11 U 2 (.int .i64 rn)) (fun j e => by cases e; rw [HUe.out]; exact Nat.le_refl _))
        clear HUd HDd HGd
        go_upto_region 24 with fail
        generalize w11.setCell ⟨U, 2, none⟩ (.int .i64 rn) = Ve at *
        clear q2 p2
        have HOe12 := hide (HOe9.out.grown HGe.out (fun k e => by cases e; exact HPD.out))
        have HO12 := hide (HO9.out.grown HGe.out (fun k e => by cases e; exact HPD.out))
        have x6 : Ve.cell? ⟨D, 6, none⟩ = some (.slice ro racc.length rc) := HDe2.out.dx.cell 6
        have k0 : Ve.cell? ⟨U, 0, none⟩ = some (.int .i64 ra) := HUe2.out.cell 0
        have k1 : Ve.cell? ⟨U, 1, none⟩ = some (.int .i64 rb) := HUe2.out.cell 1
        have k2 : Ve.cell? ⟨U, 2, none⟩ = some (.int .i64 rn) := HUe2.out.cell 2
        clear HOe9 HO9 HGe HUe2
        go_wp2_with (at_builtin; refine wpList_append_runs rfl _ _ rfl (D + 1) (.slice ro racc.length rc) _ racc [⟨ra, rb, rn⟩] rfl (HO12.out.alloc _) rfl (runs_new Ve [⟨ra, rb, rn⟩] _ _ 1 rfl rfl (by simp) (by intro r hr; rw [List.mem_singleton] at hr; subst hr; exact HRW.out)) HF.out (by have := HDe2.out.size; simp; omega) ?_)
        intro u13 w13 ho13 hg13
        have HD13 := hide ((HDe2.out.grow (World.grownBy_alloc _ _ none) (by simp)).grow hg13 (fun j e => by have := (HO12.out.block j e).1; omega))
        have HO13 := hide ho13
        have HOe13 := hide (EOwn.besideR (EOwn.alloc HOe12.out _) (ROwn.alloc HO12.out _).1 hg13)
        obtain ⟨u13o, u13c, hu13⟩ := ho13.row.of_len
        subst hu13
        have y6 : w13.cell? ⟨D, 6, none⟩ = some (.slice ro racc.length rc) := HD13.out.dx.cell 6
        have g6 := HD13.out.dx.frozen 6
        clear ho13 hg13 x6 k0 k1 k2 HDe2 HO12 HOe12
        have hd := HD13.out.store 6 (.slice u13o (racc ++ [(⟨ra, rb, rn⟩ : Rn)]).length u13c)
        have HDn := hide (show DI w P b R D _ sc #[.int .i64 v0, .int .i64 v1, .int .i64 v2, .int .i64 v3, .string tv, .slice uo al uc, .slice u13o (racc ++ [(⟨ra, rb, rn⟩ : Rn)]).length u13c] from hd)
        have HOn := hide (HO13.out.grown (grown_setCell w13 D 6 (.slice u13o (racc ++ [(⟨ra, rb, rn⟩ : Rn)]).length u13c)) (fun k e => by cases e; exact Nat.lt_succ_self _))
        have HOen := hide (HOe13.out.grown (grown_setCell w13 D 6 (.slice u13o (racc ++ [(⟨ra, rb, rn⟩ : Rn)]).length u13c)) (fun k e => by cases e; exact Nat.lt_succ_self _))
        clear hd
        generalize hlz : (racc ++ [(⟨ra, rb, rn⟩ : Rn)]).length = zl at *
        have HLZ := hide hlz
        clear hlz
        go_wp2
        have hz := HLZ.out
        subst hz
        exact ⟨⟨m', sc, racc ++ [⟨ra, rb, rn⟩], u13o, u13c, by rw [HWR.out], hide (by have := HMm.out; simp; omega), HDn, HOen, HOn, HSC, H2, hide (fun h => by rw [← H1.out h, List.append_assoc]; rfl)⟩, meas_lt HWR.out⟩
      · have hmz : manyR (rdRun xs) m s = ([], s) := by
          by_cases h0 : m = 0
          · subst h0; rfl
          · exact many_bad _ _ _ (by cases h : s.bad with | true => rfl | false => exact absurd ⟨by omega, h⟩ hgo)
        have hcf : (decide (0 < m) && !s.bad) = false := by
          cases h : s.bad with
          | true => simp
          | false => simp; by_cases h0 : m = 0; exact h0; exact absurd ⟨by omega, h⟩ hgo
        rw [hcf] at hc
        subst hc
        have h2 := HT2.out
        have h1 := HT1.out
        rw [hmz] at h2 h1
        dsimp only at h2 h1
        rw [List.append_nil] at h1
        have HTc := hide h2
        have HTd := hide h1
        clear h2 h1 hmz hcf hgo HT2 HT1 cb
        go_wp2
        exact HEX.out s racc ro rc _ _ _ _ _ _ _ _ _ _ _ _ _ _ _ _ _ _ _ _ _ _ _ _ _ _ _ _ wc HD.out HOe.out HO.out HTc.out (fun h => HTd.out h)
end Go.Proofs.Ytgkmgpjhpplkiaa

/-
  The document's reader: an inode; its loops, each by itself.
-/
namespace Go.Proofs.Ytgkmgpjhpplkiaa
open Go.RowKit
set_option linter.unusedVariables false
set_option maxRecDepth 100000

set_option maxHeartbeats 8000000 in
theorem RInode_any (w : World) (P : Nat) (b : Value) (xs : List Int) (s : Rd) (hB : RdB w P b s) (hr : RowP w P b xs) (hS : InS xs 0 s) (hx : xs.length ≤ 1000000) :
    Calls Try.prog 23 #[.pointer (some ⟨P, 0, none⟩)] w (SaysX2 P b (rdIno xs s) w) := by
  have hby := (hr w (World.grownBy.refl _ _)).bys
  have HBY := hide hby
  have HX := hide hx
  have hX := fun (k : Nat) (hk : k ≤ 64) s (h : InS xs k s) => (show s.at_ ≤ 1000000000000 by have := h.2.1; omega)
  have HR := hide hr
  have HFin := hide (fun (x : Ino) (ev rv : Value) (s' : Rd) (e : Ending) (w' : World) (h1 : e = .returned (.agg (inoCells x ev rv))) (h2 : InoWf x) (h3 : EOwn w.heap.size w' ev x.es) (h4 : ROwn w.heap.size w' rv x.rs) (h5 : RdB w' P b s') (h6 : w.grownBy w' (some P))
    (h7 : s' = (rdIno xs s).2) (h8 : s'.bad = false → x = (rdIno xs s).1) => (show SaysX2 P b (rdIno xs s) w e w' from ⟨x, ev, rv, h1, h2, h3, h4, h7 ▸ h5, h6, fun hb => h8 (h7 ▸ hb)⟩))
  generalize hG : SaysX2 P b (rdIno xs s) w = G at *
  clear hG
  have hEq := rdIno_eq xs s
  dsimp only at hEq
  have HN1 := hide (fun w' (hb : RdB w' P b s) (hg : w.grownBy w' (some P)) => RNumber_any w' P b xs s hb (hr w' hg) hS.1 (hX 0 (by omega) _ hS))
  have hS1 := ins_num hS
  have hw0 := num_wf xs s
  generalize (rdNum xs s).1 = v0 at *
  generalize (rdNum xs s).2 = s1 at *
  have HN2 := hide (fun w' (hb : RdB w' P b s1) (hg : w.grownBy w' (some P)) => RNumber_any w' P b xs s1 hb (hr w' hg) hS1.1 (hX _ (by omega) _ hS1))
  have hS2 := ins_num hS1
  have hw1 := num_wf xs s1
  generalize (rdNum xs s1).1 = v1 at *
  generalize (rdNum xs s1).2 = s2 at *
  have HN3 := hide (fun w' (hb : RdB w' P b s2) (hg : w.grownBy w' (some P)) => RNumber_any w' P b xs s2 hb (hr w' hg) hS2.1 (hX _ (by omega) _ hS2))
  have hS3 := ins_num hS2
  have hw2 := num_wf xs s2
  generalize (rdNum xs s2).1 = v2 at *
  generalize (rdNum xs s2).2 = s3 at *
  have HN4 := hide (fun w' (hb : RdB w' P b s3) (hg : w.grownBy w' (some P)) => RNumber_any w' P b xs s3 hb (hr w' hg) hS3.1 (hX _ (by omega) _ hS3))
  have hS4 := ins_num hS3
  have hw3 := num_wf xs s3
  generalize (rdNum xs s3).1 = v3 at *
  generalize (rdNum xs s3).2 = s4 at *
  have HEq := hide hEq
  have HS4 := hide hS4
  have HWF := hide (fun (t : ByteArray) (es : List En) (rs : List Rn) (ht : t.size ≤ 1000000) => (show InoWf ⟨v0, v1, v2, v3, t, es, rs⟩ from ⟨hw0, hw1, hw2, hw3, by unfold maxLen; dsimp only; omega⟩))
  have HB := hide hB
  have HPL := hide hB.lt
  clear hEq hB hr hS hx hby hX hS1 hS2 hS3 hS4 hw0 hw1 hw2 hw3
  have hba := kl_alloc w (.cells #[.int .i64 0, .int .i64 0, .int .i64 0, .int .i64 0, .string ⟨#[]⟩, .slice none 0 0, .slice none 0 0] 36)
  have hbl := Blk.new w #[.int .i64 0, .int .i64 0, .int .i64 0, .int .i64 0, .string ⟨#[]⟩, .slice none 0 0, .slice none 0 0] 36
  have HB0 := hide (show RdB _ P b s from kl_blk hba HB.out)
  have HG0 := hide (below_grown hba (some P))
  have HR0 := hide hbl
  have HZ0 := hide (show w.heap.size + 1 ≤ (w.alloc (.cells #[.int .i64 0, .int .i64 0, .int .i64 0, .int .i64 0, .string ⟨#[]⟩, .slice none 0 0, .slice none 0 0] 36)).heap.size by simp)
  clear hba hbl
  go_enter Try.func23, Try.ntmps23
  go_upto_region 1 with fail
  generalize w.alloc (.cells #[.int .i64 0, .int .i64 0, .int .i64 0, .int .i64 0, .string ⟨#[]⟩, .slice none 0 0, .slice none 0 0] 36) = W0 at *
  generalize hA : w.heap.size = R at *
  have HAE := hide hA
  have HNE := hide (show some R ≠ some P by intro e; have e' := Option.some.inj e; have := HPL.out; omega)
  clear hA
  go_wp2_with fail
  refine (HN1.out W0 HB0.out HG0.out).mono ?_
  rintro e w1 ⟨rfl, hq, hg⟩
  have HB1 := hide hq
  have HR1 := hide (HR0.out.kept hg HNE.out)
  have HG1 := hide (grown_trans HG0.out hg)
  have HZ1 := hide (Nat.le_trans HZ0.out hg.size)
  clear hq hg HB0 HR0 HG0 HZ0
  go_upto_region 2 with fail
  have HDa := hide (show DI w P b R w1.heap.size (w1.alloc (.cells #[.int .i64 v0, .int .i64 0, .int .i64 0, .int .i64 0, .string ⟨#[]⟩, .slice none 0 0, .slice none 0 0] 36)) s1 #[.int .i64 v0, .int .i64 0, .int .i64 0, .int .i64 0, .string ⟨#[]⟩, .slice none 0 0, .slice none 0 0] from ⟨kl_blk (kl_alloc _ _) HB1.out, kl_blk (kl_alloc _ _) HR1.out, Blk.new _ _ _, grown_trans HG1.out (World.grownBy_alloc _ _ _), HPL.out, by have := HZ1.out; omega, HAE.out⟩)
  clear HB1 HR1 HG1 HZ1 HN1
  generalize w1.alloc (.cells #[.int .i64 v0, .int .i64 0, .int .i64 0, .int .i64 0, .string ⟨#[]⟩, .slice none 0 0, .slice none 0 0] 36) = V1 at *
  generalize w1.heap.size = D at *
  go_wp2_with fail
  refine (HN2.out V1 HDa.out.rd HDa.out.gr).mono ?_
  rintro e w2 ⟨rfl, hq, hg⟩
  have HDb1 := hide (HDa.out.call hq hg)
  have d1 : w2.cell? ⟨D, 1, none⟩ = some (.int .i64 0) := HDb1.out.dx.cell 1
  have f1 := HDb1.out.dx.frozen 1
  have HDc1 := hide (show DI w P b R D _ s2 #[.int .i64 v0, .int .i64 v1, .int .i64 0, .int .i64 0, .string ⟨#[]⟩, .slice none 0 0, .slice none 0 0] from HDb1.out.store 1 (.int .i64 v1))
  clear hq hg HDa HN2
  go_upto_region 3 with fail
  generalize w2.setCell ⟨D, 1, none⟩ (.int .i64 v1) = V2 at *
  clear d1 f1 HDb1
  go_wp2_with fail
  refine (HN3.out V2 HDc1.out.rd HDc1.out.gr).mono ?_
  rintro e w3 ⟨rfl, hq, hg⟩
  have HDb2 := hide (HDc1.out.call hq hg)
  have d2 : w3.cell? ⟨D, 2, none⟩ = some (.int .i64 0) := HDb2.out.dx.cell 2
  have f2 := HDb2.out.dx.frozen 2
  have HDc2 := hide (show DI w P b R D _ s3 #[.int .i64 v0, .int .i64 v1, .int .i64 v2, .int .i64 0, .string ⟨#[]⟩, .slice none 0 0, .slice none 0 0] from HDb2.out.store 2 (.int .i64 v2))
  clear hq hg HDc1 HN3
  go_upto_region 4 with fail
  generalize w3.setCell ⟨D, 2, none⟩ (.int .i64 v2) = V3 at *
  clear d2 f2 HDb2
  go_wp2_with fail
  refine (HN4.out V3 HDc2.out.rd HDc2.out.gr).mono ?_
  rintro e w4 ⟨rfl, hq, hg⟩
  have HDb3 := hide (HDc2.out.call hq hg)
  have d3 : w4.cell? ⟨D, 3, none⟩ = some (.int .i64 0) := HDb3.out.dx.cell 3
  have f3 := HDb3.out.dx.frozen 3
  have HDc3 := hide (show DI w P b R D _ s4 #[.int .i64 v0, .int .i64 v1, .int .i64 v2, .int .i64 v3, .string ⟨#[]⟩, .slice none 0 0, .slice none 0 0] from HDb3.out.store 3 (.int .i64 v3))
  clear hq hg HDc2 HN4
  go_upto_region 5 with fail
  generalize w4.setCell ⟨D, 3, none⟩ (.int .i64 v3) = V4 at *
  clear d3 f3 HDb3
  have cb : V4.cell? ⟨P, 2, none⟩ = some (.bool s4.bad) := HDc3.out.bad
  cases hb4 : s4.bad with
  | true => 
    rw [hb4] at cb
    have hE := HEq.out
    rw [if_pos hb4] at hE
    have HE := hide hE
    clear hE
    have e0 : V4.cell? ⟨D, 0, none⟩ = some (.int .i64 v0) := HDc3.out.dx.cell 0
    have e1 : V4.cell? ⟨D, 1, none⟩ = some (.int .i64 v1) := HDc3.out.dx.cell 1
    have e2 : V4.cell? ⟨D, 2, none⟩ = some (.int .i64 v2) := HDc3.out.dx.cell 2
    have e3 : V4.cell? ⟨D, 3, none⟩ = some (.int .i64 v3) := HDc3.out.dx.cell 3
    have e4 : V4.cell? ⟨D, 4, none⟩ = some (.string ⟨#[]⟩) := HDc3.out.dx.cell 4
    have e5 : V4.cell? ⟨D, 5, none⟩ = some (.slice none 0 0) := HDc3.out.dx.cell 5
    have e6 : V4.cell? ⟨D, 6, none⟩ = some (.slice none 0 0) := HDc3.out.dx.cell 6
    have z0 : V4.cell? ⟨R, 0, none⟩ = some (.int .i64 0) := HDc3.out.res.cell 0
    have y0 := HDc3.out.res.frozen 0
    have z1 : V4.cell? ⟨R, 1, none⟩ = some (.int .i64 0) := HDc3.out.res.cell 1
    have y1 := HDc3.out.res.frozen 1
    have z2 : V4.cell? ⟨R, 2, none⟩ = some (.int .i64 0) := HDc3.out.res.cell 2
    have y2 := HDc3.out.res.frozen 2
    have z3 : V4.cell? ⟨R, 3, none⟩ = some (.int .i64 0) := HDc3.out.res.cell 3
    have y3 := HDc3.out.res.frozen 3
    have z4 : V4.cell? ⟨R, 4, none⟩ = some (.string ⟨#[]⟩) := HDc3.out.res.cell 4
    have y4 := HDc3.out.res.frozen 4
    have z5 : V4.cell? ⟨R, 5, none⟩ = some (.slice none 0 0) := HDc3.out.res.cell 5
    have y5 := HDc3.out.res.frozen 5
    have z6 : V4.cell? ⟨R, 6, none⟩ = some (.slice none 0 0) := HDc3.out.res.cell 6
    have y6 := HDc3.out.res.frozen 6
    have HRZ := hide (show R < V4.heap.size from HDc3.out.res.lt)
    go_wp2
    refine bodyPost_ret (results_cell_row rfl _ _ R 36 _ (0, 0) _ rfl (blk_over HDc3.out.res _ _ _ _ _ _ _) Try.underlying36 rfl (by kernel_rfl)) rfl (HFin.out ⟨v0, v1, v2, v3, ByteArray.empty, [], []⟩ _ _ _ _ _ rfl (HWF.out _ _ _ (by simp)) ?_ ?_ (Blk.kept HDc3.out.rd (grown7 _ _ _ _ _ _ _ _ _) (fun e => HNE.out e.symm)) (grown_mix HDc3.out.gr (grown7 _ _ _ _ _ _ _ _ _) (fun j e => by cases e; rw [HAE.out]; exact Nat.le_refl _)) ?_ ?_)
    · exact (EOwn.nil _ _)
    · exact (ROwn.nil _ _)
    · rw [HE.out]
    · intro h; rw [hb4] at h; cases h
  | false =>
    rw [hb4] at cb
    have hE := HEq.out
    rw [if_neg (by rw [hb4]; simp)] at hE
    have hS4 := HS4.out
    have hS4' : InS xs 0 s4 := ⟨hS4.1, by have := hS4.2.2 hb4; omega, hS4.2.2⟩
    have HT := hide (fun w' (hb : RdB w' P b s4) (hg : w.grownBy w' (some P)) => RText_any w' P b xs s4 hb (HR.out w' hg) hS4.1 (by have := hS4.2.1; have := HX.out; omega))
    have hS5 : InS xs 0 (rdStr xs s4).2 := ins_text HBY.out hS4'
    have hsz := str_size xs s4
    have hTe : ∀ w', Calls Try.prog 36 #[.pointer (some ⟨P, 0, none⟩)] w' (SaysN (.string (rdStr xs s4).1) P b (rdStr xs s4).2 w') = Calls Try.prog 36 #[.pointer (some ⟨P, 0, none⟩)] w' (SaysN (.string (strOfNums (rdText xs s4).1)) P b (rdText xs s4).2 w') := fun w' => rfl
    simp only [← hTe] at HT
    clear hTe hS4 hS4'
    generalize (rdStr xs s4).1 = tv at *
    generalize (rdStr xs s4).2 = s5 at *
    have HTS := hide (show tv.size ≤ 1000000 by have := HX.out; omega)
    have HS5 := hide hS5
    have HEq5 := hide hE
    clear hE hS5 hsz HEq HS4
    go_wp2_with fail
    refine (HT.out V4 HDc3.out.rd HDc3.out.gr).mono ?_
    rintro e w5 ⟨rfl, hq, hg⟩
    have HDd := hide (HDc3.out.call hq hg)
    have d4 : w5.cell? ⟨D, 4, none⟩ = some (.string ⟨#[]⟩) := HDd.out.dx.cell 4
    have f4 := HDd.out.dx.frozen 4
    have HDe := hide (show DI w P b R D _ s5 #[.int .i64 v0, .int .i64 v1, .int .i64 v2, .int .i64 v3, .string tv, .slice none 0 0, .slice none 0 0] from HDd.out.store 4 (.string tv))
    clear hq hg HDc3 HT cb
    go_upto_region 8 with fail
    generalize w5.setCell ⟨D, 4, none⟩ (.string tv) = V5 at *
    clear d4 f4 HDd
    have cb : V5.cell? ⟨P, 2, none⟩ = some (.bool s5.bad) := HDe.out.bad
    cases hb5 : s5.bad with
    | true => 
      rw [hb5] at cb
      have hE := HEq5.out
      rw [if_pos hb5] at hE
      have HE := hide hE
      clear hE
      have e0 : V5.cell? ⟨D, 0, none⟩ = some (.int .i64 v0) := HDe.out.dx.cell 0
      have e1 : V5.cell? ⟨D, 1, none⟩ = some (.int .i64 v1) := HDe.out.dx.cell 1
      have e2 : V5.cell? ⟨D, 2, none⟩ = some (.int .i64 v2) := HDe.out.dx.cell 2
      have e3 : V5.cell? ⟨D, 3, none⟩ = some (.int .i64 v3) := HDe.out.dx.cell 3
      have e4 : V5.cell? ⟨D, 4, none⟩ = some (.string tv) := HDe.out.dx.cell 4
      have e5 : V5.cell? ⟨D, 5, none⟩ = some (.slice none 0 0) := HDe.out.dx.cell 5
      have e6 : V5.cell? ⟨D, 6, none⟩ = some (.slice none 0 0) := HDe.out.dx.cell 6
      have z0 : V5.cell? ⟨R, 0, none⟩ = some (.int .i64 0) := HDe.out.res.cell 0
      have y0 := HDe.out.res.frozen 0
      have z1 : V5.cell? ⟨R, 1, none⟩ = some (.int .i64 0) := HDe.out.res.cell 1
      have y1 := HDe.out.res.frozen 1
      have z2 : V5.cell? ⟨R, 2, none⟩ = some (.int .i64 0) := HDe.out.res.cell 2
      have y2 := HDe.out.res.frozen 2
      have z3 : V5.cell? ⟨R, 3, none⟩ = some (.int .i64 0) := HDe.out.res.cell 3
      have y3 := HDe.out.res.frozen 3
      have z4 : V5.cell? ⟨R, 4, none⟩ = some (.string ⟨#[]⟩) := HDe.out.res.cell 4
      have y4 := HDe.out.res.frozen 4
      have z5 : V5.cell? ⟨R, 5, none⟩ = some (.slice none 0 0) := HDe.out.res.cell 5
      have y5 := HDe.out.res.frozen 5
      have z6 : V5.cell? ⟨R, 6, none⟩ = some (.slice none 0 0) := HDe.out.res.cell 6
      have y6 := HDe.out.res.frozen 6
      have HRX := hide (show R < D + 1 by have := HDe.out.rx; omega)
      go_wp2
      refine bodyPost_ret (results_cell_row rfl _ _ R 36 _ (0, 0) _ rfl (blk_over HDe.out.res _ _ _ _ _ _ _) Try.underlying36 rfl (by kernel_rfl)) rfl (HFin.out ⟨v0, v1, v2, v3, tv, [], []⟩ _ _ _ _ _ rfl (HWF.out _ _ _ HTS.out) ?_ ?_ (Blk.kept HDe.out.rd (grown7 _ _ _ _ _ _ _ _ _) (fun e => HNE.out e.symm)) (grown_mix HDe.out.gr (grown7 _ _ _ _ _ _ _ _ _) (fun j e => by cases e; rw [HAE.out]; exact Nat.le_refl _)) ?_ ?_)
      · exact (EOwn.nil _ _)
      · exact (ROwn.nil _ _)
      · rw [HE.out]
      · intro h; rw [hb5] at h; cases h
    | false =>
      rw [hb5] at cb
      have hE := HEq5.out
      rw [if_neg (by rw [hb5]; simp)] at hE
      have hS5 := HS5.out
      have HM := hide (fun w' (hb : RdB w' P b s5) (hg : w.grownBy w' (some P)) => RMany_any w' P b xs s5 hb (HR.out w' hg) hS5.1 (by have := hS5.2.1; have := HX.out; omega))
      have hS6 := ins_many hS5
      have hmr : 0 ≤ (rdMany xs s5).1 ∧ (rdMany xs s5).1 < 4294967296 := getS4_range HBY.out _
      have hT6 : lenR xs (manyR (rdEnt xs)) s5 = manyR (rdEnt xs) (rdMany xs s5).1.toNat (rdMany xs s5).2 := rfl
      rw [hT6] at hE
      clear hT6
      generalize (rdMany xs s5).1 = n0 at *
      generalize (rdMany xs s5).2 = s6 at *
      obtain ⟨n0, rfl⟩ := Int.eq_ofNat_of_zero_le hmr.1
      rw [show (n0 : Int).toNat = n0 from rfl] at hE
      have HMR := hide hmr
      have HS6 := hide hS6
      generalize hT : manyR (rdEnt xs) n0 s6 = T at *
      have HT := hide hT
      have HEq6 := hide hE
      clear hE hS5 hS6 hmr hT HEq5 HS5
      go_wp2_with fail
      refine (HM.out V5 HDe.out.rd HDe.out.gr).mono ?_
      rintro e w6 ⟨rfl, hq, hg⟩
      have HDf := hide (HDe.out.call hq hg)
      clear hq hg HDe HM cb
      go_wp2
      refine RInode_loop1 w P b xs HR.out HX.out R D v0 v1 v2 v3 tv n0 (by have := HMR.out; omega) s6 HS6.out w6 HDf.out G _ _ _ _ _ _ _ _ _ _ _ _ _ _ _ _ _ _ _ _ _ _ _ _ _ _ _ _ _ _ _ _ _ _ _ _ _ _ _ _ _ _ _ _ _ _ _ _ _ _ _ _ _ _ _ _ _ _ _ _ _ _ _ _ _ _ _ _ _ _ _ _ _ _ _ _ _ _ _ _ _ _ _ _ _ _ _ _ _ _ _ _ _ ?_
      intro s acc uo uc x4 x5 x35 x36 x37 x38 x39 x40 x41 x42 x43 x44 x45 x46 x47 x48 x49 x50 x51 x52 x53 x54 x55 x56 x57 x58 x59 x60 x61 wc hd ho hs hta htb
      rw [HT.out] at hta htb
      have HD := hide hd
      have HO := hide ho
      have HS := hide hs
      have HTa := hide hta
      have HTb := hide htb
      have cb : wc.cell? ⟨P, 2, none⟩ = some (.bool s.bad) := HD.out.bad
      clear hd ho hs hta htb HDf HS6 HMR HT
      cases hb6 : s.bad with
      | true => 
        rw [hb6] at cb
        have hE := HEq6.out
        rw [if_pos (by rw [HTa.out]; exact hb6)] at hE
        have HE := hide hE
        clear hE
        have e0 : wc.cell? ⟨D, 0, none⟩ = some (.int .i64 v0) := HD.out.dx.cell 0
        have e1 : wc.cell? ⟨D, 1, none⟩ = some (.int .i64 v1) := HD.out.dx.cell 1
        have e2 : wc.cell? ⟨D, 2, none⟩ = some (.int .i64 v2) := HD.out.dx.cell 2
        have e3 : wc.cell? ⟨D, 3, none⟩ = some (.int .i64 v3) := HD.out.dx.cell 3
        have e4 : wc.cell? ⟨D, 4, none⟩ = some (.string tv) := HD.out.dx.cell 4
        have e5 : wc.cell? ⟨D, 5, none⟩ = some (.slice uo acc.length uc) := HD.out.dx.cell 5
        have e6 : wc.cell? ⟨D, 6, none⟩ = some (.slice none 0 0) := HD.out.dx.cell 6
        have z0 : wc.cell? ⟨R, 0, none⟩ = some (.int .i64 0) := HD.out.res.cell 0
        have y0 := HD.out.res.frozen 0
        have z1 : wc.cell? ⟨R, 1, none⟩ = some (.int .i64 0) := HD.out.res.cell 1
        have y1 := HD.out.res.frozen 1
        have z2 : wc.cell? ⟨R, 2, none⟩ = some (.int .i64 0) := HD.out.res.cell 2
        have y2 := HD.out.res.frozen 2
        have z3 : wc.cell? ⟨R, 3, none⟩ = some (.int .i64 0) := HD.out.res.cell 3
        have y3 := HD.out.res.frozen 3
        have z4 : wc.cell? ⟨R, 4, none⟩ = some (.string ⟨#[]⟩) := HD.out.res.cell 4
        have y4 := HD.out.res.frozen 4
        have z5 : wc.cell? ⟨R, 5, none⟩ = some (.slice none 0 0) := HD.out.res.cell 5
        have y5 := HD.out.res.frozen 5
        have z6 : wc.cell? ⟨R, 6, none⟩ = some (.slice none 0 0) := HD.out.res.cell 6
        have y6 := HD.out.res.frozen 6
        have HRX := hide (show R < D + 1 by have := HD.out.rx; omega)
        go_wp2
        refine bodyPost_ret (results_cell_row rfl _ _ R 36 _ (0, 0) _ rfl (blk_over HD.out.res _ _ _ _ _ _ _) Try.underlying36 rfl (by kernel_rfl)) rfl (HFin.out ⟨v0, v1, v2, v3, tv, acc, []⟩ _ _ _ _ _ rfl (HWF.out _ _ _ HTS.out) ?_ ?_ (Blk.kept HD.out.rd (grown7 _ _ _ _ _ _ _ _ _) (fun e => HNE.out e.symm)) (grown_mix HD.out.gr (grown7 _ _ _ _ _ _ _ _ _) (fun j e => by cases e; rw [HAE.out]; exact Nat.le_refl _)) ?_ ?_)
        · exact (HO.out.grown (grown7 _ _ _ _ _ _ _ _ _) (fun j e => by cases e; exact HRX.out)).mono (Nat.le_of_lt HRX.out)
        · exact (ROwn.nil _ _)
        · rw [HE.out]; exact HTa.out.symm
        · intro h; rw [hb6] at h; cases h
      | false =>
        rw [hb6] at cb
        have htb : T.2.bad = false := by rw [HTa.out]; exact hb6
        have hE := HEq6.out
        rw [if_neg (by rw [htb]; simp), HTa.out] at hE
        have hacc := HTb.out htb
        have hs := HS.out
        have hs0 : InS xs 0 s := ⟨hs.1, by have := hs.2.2 hb6; omega, hs.2.2⟩
        have HM := hide (fun w' (hb : RdB w' P b s) (hg : w.grownBy w' (some P)) => RMany_any w' P b xs s hb (HR.out w' hg) hs.1 (by have := hs.2.1; have := HX.out; omega))
        have hS7 := ins_many hs0
        have hmr : 0 ≤ (rdMany xs s).1 ∧ (rdMany xs s).1 < 4294967296 := getS4_range HBY.out _
        have hT7 : lenR xs (manyR (rdRun xs)) s = manyR (rdRun xs) (rdMany xs s).1.toNat (rdMany xs s).2 := rfl
        rw [hT7] at hE
        clear hT7
        generalize (rdMany xs s).1 = n1 at *
        generalize (rdMany xs s).2 = s7 at *
        obtain ⟨n1, rfl⟩ := Int.eq_ofNat_of_zero_le hmr.1
        rw [show (n1 : Int).toNat = n1 from rfl] at hE
        generalize hT : manyR (rdRun xs) n1 s7 = T2 at *
        have HT' := hide hT
        have HMR2 := hide hmr
        have HS7 := hide (hS7.le (show 0 + 8 ≤ 32 by omega))
        have HACC := hide hacc
        have HEq7 := hide hE
        have HOe := hide HO.out
        generalize hal : acc.length = al at *
        clear hE hacc hs hs0 hS7 hmr hT htb HEq6 HTa HTb HO HS hal
        go_wp2_with fail
        refine (HM.out wc HD.out.rd HD.out.gr).mono ?_
        rintro e w8 ⟨rfl, hq, hg⟩
        have HD8 := hide (HD.out.call hq hg)
        have HO8 := hide (HOe.out.grown hg (fun k e => by cases e; have := HD.out.pr; have := HD.out.rx; omega))
        clear hq hg HD HM HOe cb
        go_wp2
        refine RInode_loop2 w P b xs HR.out HX.out R D v0 v1 v2 v3 tv uo al uc acc n1 (by have := HMR2.out; omega) s7 HS7.out w8 HD8.out HO8.out _ _ _ _ _ _ _ _ _ _ _ _ _ _ _ _ _ _ _ _ _ _ _ _ _ _ _ _ _ _ _ _ _ _ _ _ _ _ _ _ _ _ _ _ _ _ _ _ _ _ _ _ _ _ _ _ _ _ _ _ _ _ _ _ _ _ _ _ _ _ _ _ _ _ _ _ _ _ _ _ _ _ _ _ _ _ _ _ _ _ _ _ _ ?_
        intro s racc ro rc x6 x7 x69 x70 x71 x72 x73 x74 x75 x76 x77 x78 x79 x80 x81 x82 x83 x84 x85 x86 x87 x88 x89 x90 x91 x92 x93 x94 wc hd hoe ho htc htd
        rw [HT'.out] at htc htd
        have HD := hide hd
        have HOe := hide hoe
        have HO := hide ho
        have HTc := hide htc
        have HTd := hide htd
        clear hd hoe ho htc htd HD8 HO8 HS7 HMR2 HT'
        have HOx := hide HO.out
        generalize hrl : racc.length = rl at *
        clear hrl HO
        have e0 : wc.cell? ⟨D, 0, none⟩ = some (.int .i64 v0) := HD.out.dx.cell 0
        have e1 : wc.cell? ⟨D, 1, none⟩ = some (.int .i64 v1) := HD.out.dx.cell 1
        have e2 : wc.cell? ⟨D, 2, none⟩ = some (.int .i64 v2) := HD.out.dx.cell 2
        have e3 : wc.cell? ⟨D, 3, none⟩ = some (.int .i64 v3) := HD.out.dx.cell 3
        have e4 : wc.cell? ⟨D, 4, none⟩ = some (.string tv) := HD.out.dx.cell 4
        have e5 : wc.cell? ⟨D, 5, none⟩ = some (.slice uo al uc) := HD.out.dx.cell 5
        have e6 : wc.cell? ⟨D, 6, none⟩ = some (.slice ro rl rc) := HD.out.dx.cell 6
        have z0 : wc.cell? ⟨R, 0, none⟩ = some (.int .i64 0) := HD.out.res.cell 0
        have y0 := HD.out.res.frozen 0
        have z1 : wc.cell? ⟨R, 1, none⟩ = some (.int .i64 0) := HD.out.res.cell 1
        have y1 := HD.out.res.frozen 1
        have z2 : wc.cell? ⟨R, 2, none⟩ = some (.int .i64 0) := HD.out.res.cell 2
        have y2 := HD.out.res.frozen 2
        have z3 : wc.cell? ⟨R, 3, none⟩ = some (.int .i64 0) := HD.out.res.cell 3
        have y3 := HD.out.res.frozen 3
        have z4 : wc.cell? ⟨R, 4, none⟩ = some (.string ⟨#[]⟩) := HD.out.res.cell 4
        have y4 := HD.out.res.frozen 4
        have z5 : wc.cell? ⟨R, 5, none⟩ = some (.slice none 0 0) := HD.out.res.cell 5
        have y5 := HD.out.res.frozen 5
        have z6 : wc.cell? ⟨R, 6, none⟩ = some (.slice none 0 0) := HD.out.res.cell 6
        have y6 := HD.out.res.frozen 6
        have HRX := hide (show R < D + 1 by have := HD.out.rx; omega)
        go_wp2
        refine bodyPost_ret (results_cell_row rfl _ _ R 36 _ (0, 0) _ rfl (blk_over HD.out.res _ _ _ _ _ _ _) Try.underlying36 rfl (by kernel_rfl)) rfl (HFin.out ⟨v0, v1, v2, v3, tv, acc, racc⟩ _ _ _ _ _ rfl (HWF.out _ _ _ HTS.out) ?_ ?_ (Blk.kept HD.out.rd (grown7 _ _ _ _ _ _ _ _ _) (fun e => HNE.out e.symm)) (grown_mix HD.out.gr (grown7 _ _ _ _ _ _ _ _ _) (fun j e => by cases e; rw [HAE.out]; exact Nat.le_refl _)) ?_ ?_)
        · exact (HOe.out.grown (grown7 _ _ _ _ _ _ _ _ _) (fun j e => by cases e; exact HRX.out)).mono (Nat.le_of_lt HRX.out)
        · exact (HOx.out.grown (grown7 _ _ _ _ _ _ _ _ _) (fun j e => by cases e; exact HRX.out)).mono (Nat.le_of_lt HRX.out)
        · rw [HEq7.out]; exact HTc.out.symm
        · intro h; rw [HEq7.out, ← HACC.out, HTd.out (by rw [HTc.out]; exact h)]
end Go.Proofs.Ytgkmgpjhpplkiaa

/-
  The document's Unpack.
-/
namespace Go.Proofs.Ytgkmgpjhpplkiaa
open Go.RowKit
set_option linter.unusedVariables false
set_option maxRecDepth 100000

theorem next_swap {xs : List Int} {a1 : Nat} {q : Option (Dd × List Int)} {x y : Dd} {at' : Int} {bad : Bool} (h : NextP xs a1 q x at' (erN bad)) (hxy : bad = false → y = x) : NextP xs a1 q y at' (erN bad) := by
  cases bad with
  | false => rw [hxy rfl]; exact h
  | true =>
    cases q with
    | none => exact h
    | some p => exact absurd h.1 (by decide)

set_option maxHeartbeats 8000000 in
theorem Unpack_any (w : World) (b : Value) (xs : List Int) (hr : Row w b xs) (hx : xs.length ≤ 1000000) :
    Calls Try.prog 12 #[b] w (SaysL (parseS xs) w) := by
  obtain ⟨ao, cap, hv⟩ := hr.of_len
  have HBY := hide hr.bys
  have HFin := hide (fun (u : Value) (ds : List Dv) (er : Int) (e : Ending) (w' : World) (h1 : e = .returned (.tuple #[u, .int .i64 er])) (h2 : DMade w.heap.size w' u ds) (h3 : (ds.map Dv.d, er) = parseS xs) (h4 : Below w.heap.size w w') => (show SaysL (parseS xs) w e w' from ⟨u, ds, by rw [← h3]; exact h1, h2, by rw [← h3], h4⟩))
  have HPS := hide (show parseS xs = appD [] (unS (xs.length + 1) (xs.drop 0)) by rw [app_nil (un_err _ _)]; rfl)
  generalize hG : SaysL (parseS xs) w = G at *
  clear hG
  have HX := hide hx
  have HR := hide hr
  obtain ⟨len, hL⟩ : ∃ n, xs.length = n := ⟨_, rfl⟩
  have HL := hide hL
  rw [hL] at hv
  have hlm : len ≤ 1000000 := by omega
  subst hv
  clear hr hx hL
  have hba := kl_alloc w (.cells #[.slice ao len cap, .int .i64 0, .bool false] 57)
  have HB0 := hide (show RdB _ _ (.slice ao len cap) ⟨((0 : Nat) : Int), false⟩ from Blk.new w #[.slice ao len cap, .int .i64 0, .bool false] 57)
  have HG0 := hide hba
  have HZ0 := hide (show (w.alloc (.cells #[.slice ao len cap, .int .i64 0, .bool false] 57)).heap.size = w.heap.size + 1 by simp)
  clear hba
  go_enter Try.func12, Try.ntmps12
  go_wp2
  generalize w.alloc (.cells #[.slice ao len cap, .int .i64 0, .bool false] 57) = W0 at *
  have HRW := hide (fun w' (hg : W0.grownBy w' (some w.heap.size)) => HR.out.below (show Below w.heap.size w w' from ⟨hg.os.trans HG0.out.os, hg.tape.trans HG0.out.tape, hg.output.trans HG0.out.output, Nat.le_trans HG0.out.size hg.size, fun k hk => (hg.block k (by have := HZ0.out; omega) (by simp; omega)).trans (HG0.out.block k hk)⟩))
  generalize hA : w.heap.size = P at *
  have HAE := hide hA
  clear hA HR
  go_loopw [5] (fun u wr => ∃ (a n : Nat) (ds : List Dv), Hid (a ≤ xs.length) ∧ Hid (xs.length < a + n) ∧ Hid (ds.length ≤ a) ∧ Hid (RdB wr P (.slice ao len cap) ⟨(a : Int), false⟩) ∧ Hid (W0.grownBy wr (some P)) ∧ Hid (DMade (P + 1) wr u ds) ∧ Hid (parseS xs = appD (ds.map Dv.d) (unS n (xs.drop a)))) (fun u wr => len - (intOf ((wr.cell? ⟨P, 1, none⟩).getD (.int .i64 0))).toNat)
  case atStart => exact ⟨0, xs.length + 1, [], hide (Nat.zero_le _), hide (by omega), hide (by simp), HB0, hide (World.grownBy.refl _ _), hide (DMade.nil _ _), HPS⟩
  case round =>
    obtain ⟨a, n, ds, HA, HN, HDL, HB, HG, HD, HP⟩ := hrel
    have c1 : wr.cell? ⟨P, 1, none⟩ = some (.int .i64 (a : Int)) := HB.out.cell 1
    by_cases hal : a < len
    · have hal' : (a : Int) < len := by omega
      have hax : a < xs.length := by rw [HL.out]; exact hal
      obtain ⟨bb, boff, bcap, hbv, _, _, hcell⟩ := (HRW.out wr HG.out).at (by intro e; rw [e] at hax; cases hax)
      rw [HL.out] at hbv
      simp only [Value.slice.injEq, true_and] at hbv
      obtain ⟨rfl, rfl⟩ := hbv
      have p0 : wr.cell? ⟨bb, boff + a, none⟩ = some (.int .u8 (xs.getD a 0)) := hcell a hax
      obtain ⟨hk0, hk1⟩ := HBY.out.at a
      have HSZ := hide (show P + 1 ≤ wr.heap.size by rw [← HZ0.out]; exact HG.out.size)
      have HUS := hide (fun x at' er (h : NextD xs a x at' er) => un_step (n := n - 1) hax h)
      have hdr := drop_cons hax
      have hS1 : InS xs 0 ⟨((a + 1 : Nat) : Int), false⟩ := ⟨by dsimp only; omega, by dsimp only; omega, fun _ => by dsimp only; omega⟩
      have HNM := hide (fun w' (hb : RdB w' P (.slice (some ⟨bb, boff, none⟩) len cap) ⟨((a + 1 : Nat) : Int), false⟩) (hg : W0.grownBy w' (some P)) => RNumber_any w' P _ xs ⟨((a + 1 : Nat) : Int), false⟩ hb (HRW.out w' hg) (by dsimp only; omega) (by dsimp only; omega))
      have HIN := hide (fun w' (hb : RdB w' P (.slice (some ⟨bb, boff, none⟩) len cap) ⟨((a + 1 : Nat) : Int), false⟩) (hg : W0.grownBy w' (some P)) => RInode_any w' P _ xs ⟨((a + 1 : Nat) : Int), false⟩ hb (fun w'' hg' => HRW.out w'' (grown_trans hg hg')) hS1 HX.out)
      have HNX : Hid (∀ x at' er, (if xs.getD a 0 < 1 ∨ 4 < xs.getD a 0 then er = 5 else NextP xs (a + 1) (deedD (xs.getD a 0) (xs.drop (a + 1))) x at' er) → NextD xs a x at' er) := hide (fun x at' er h => h)
      have HX1 := hide (fun k => next_of (num_rds xs) (fun v => (⟨k, v, noI⟩ : Dd)) (show a + 1 ≤ xs.length by omega))
      have HX2 := hide (next_of (ino_rds HBY.out) (fun x => (⟨2, 0, x⟩ : Dd)) (show a + 1 ≤ xs.length by omega))
      have hwn := num_wf xs ⟨((a + 1 : Nat) : Int), false⟩
      generalize (rdNum xs ⟨((a + 1 : Nat) : Int), false⟩).1 = nv at *
      generalize (rdNum xs ⟨((a + 1 : Nat) : Int), false⟩).2 = ns at *
      generalize rdIno xs ⟨((a + 1 : Nat) : Int), false⟩ = ri at *
      generalize xs.getD a 0 = k at *
      have HWN := hide hwn
      clear hcell hax hdr hS1 hwn
      have hba := kl_alloc wr (.cells #[.int .i64 k, .int .i64 0, .int .i64 0, .int .i64 0, .int .i64 0, .int .i64 0, .string ⟨#[]⟩, .slice none 0 0, .slice none 0 0] 38)
      have HB1 := hide (kl_blk hba HB.out)
      have HG1 := hide (below_grown hba (some P))
      have HD1 := hide (Blk.new wr #[.int .i64 k, .int .i64 0, .int .i64 0, .int .i64 0, .int .i64 0, .int .i64 0, .string ⟨#[]⟩, .slice none 0 0, .slice none 0 0] 38)
      clear hba
      go_upto_region 5 with fail
      generalize wr.alloc (.cells #[.int .i64 k, .int .i64 0, .int .i64 0, .int .i64 0, .int .i64 0, .int .i64 0, .string ⟨#[]⟩, .slice none 0 0, .slice none 0 0] 38) = V at *
      generalize hDz : wr.heap.size = D at HD1 HSZ ⊢
      have HDE := hide hDz
      have HND := hide (show some D ≠ some P by intro e; have e' := Option.some.inj e; have := HSZ.out; omega)
      clear hDz p0
      have c1v : V.cell? ⟨P, 1, none⟩ = some (.int .i64 (a : Int)) := HB1.out.cell 1
      have f1v := HB1.out.frozen 1
      have HB2 := hide (show RdB (V.setCell ⟨P, 1, none⟩ (.int .i64 ((a : Int) + 1))) P (.slice (some ⟨bb, boff, none⟩) len cap) ⟨((a + 1 : Nat) : Int), false⟩ from HB1.out.set 1 (.int .i64 ((a : Int) + 1)))
      have HG2 := hide (grown_trans HG1.out (grown_setCell V P 1 (.int .i64 ((a : Int) + 1))))
      have HD2 := hide (HD1.out.kept (grown_setCell V P 1 (.int .i64 ((a : Int) + 1))) HND.out)
      have HW2 := hide (show D < (V.setCell ⟨P, 1, none⟩ (.int .i64 ((a : Int) + 1))).heap.size from HD2.out.lt)
      clear HB1 HG1 HD1
      go_upto_region 6 with fail
      generalize V.setCell ⟨P, 1, none⟩ (.int .i64 ((a : Int) + 1)) = V2 at *
      clear c1v f1v
      have d0 : V2.cell? ⟨D, 0, none⟩ = some (.int .i64 k) := HD2.out.cell 0
      have HH2 := hide (grown_trans HG.out HG2.out)
      go_upto_block 2 with fail
      go_cut [34] (fun s wx => s = .int .i64 k ∧ ∃ (x : Dv) (s : Rd), Hid x.Wf ∧ Hid (EOwn (P + 1) wx x.ev x.d.x.es) ∧ Hid (ROwn (P + 1) wx x.rv x.d.x.rs) ∧ Hid (RdB wx P (.slice (some ⟨bb, boff, none⟩) len cap) s) ∧ Hid (Blk wx D x.cells.toArray 38) ∧ Hid (wr.grownBy wx (some P)) ∧ Hid (NextD xs a x.d s.at_ (erN s.bad)))
      case first =>
        clear c1 d0
        by_cases hkk : k = 1 ∨ k = 3 ∨ k = 4
        · have HXX := hide (HNX.out ⟨k, nv, noI⟩ ns.at_ (erN ns.bad) (by rw [if_neg (by omega)]; unfold deedD; rw [if_pos hkk]; exact HX1.out k))
          clear HX1 HX2 HNX HIN HUS hk0 hk1
          rcases hkk with rfl | rfl | rfl
          all_goals
            go_wp2_with fail
            refine (HNM.out V2 HB2.out HH2.out).mono ?_
            rintro e w3 ⟨rfl, hq, hg⟩
            have HB3 := hide hq
            have HD3 := hide (HD2.out.kept hg HND.out)
            have HG3 := hide (grown_trans HG2.out hg)
            clear hq hg HB2 HD2 HG2 HH2 HNM
            have d1 : w3.cell? ⟨D, 1, none⟩ = some (.int .i64 0) := HD3.out.cell 1
            have f1 := HD3.out.frozen 1
            have HD4 := hide (show Blk (w3.setCell ⟨D, 1, none⟩ (.int .i64 nv)) D #[_, .int .i64 nv, .int .i64 0, .int .i64 0, .int .i64 0, .int .i64 0, .string ⟨#[]⟩, .slice none 0 0, .slice none 0 0] 38 from HD3.out.set 1 (.int .i64 nv))
            have HB4 := hide (show RdB _ P (.slice (some ⟨bb, boff, none⟩) len cap) ns from Blk.kept HB3.out (grown_setCell w3 D 1 (.int .i64 nv)) (fun e => HND.out e.symm))
            have HG4 := hide (grown_mix HG3.out (grown_setCell w3 D 1 (.int .i64 nv)) (fun j e => by cases e; rw [HDE.out]; exact Nat.le_refl _))
            clear HB3 HD3 HG3
            go_wp2
            go_meet
            exact ⟨rfl, ⟨⟨_, nv, noI⟩, .slice none 0 0, .slice none 0 0⟩, ns, hide (dv_num (wf_i64 (by decide) (by decide)) HWN.out), hide (EOwn.nil _ _), hide (ROwn.nil _ _), HB4, HD4, HG4, HXX⟩
        · by_cases hk2 : k = 2
          · subst hk2
            have HXX := hide (fun x (h : ri.2.bad = false → x = ri.1) => HNX.out ⟨2, 0, x⟩ ri.2.at_ (erN ri.2.bad) (by rw [if_neg (by decide)]; unfold deedD; rw [if_neg (by decide)]; exact next_swap HX2.out (fun hb => by rw [h hb])))
            clear HX1 HX2 HNX HNM hkk HUS
            go_wp2_with fail
            refine (HIN.out V2 HB2.out HH2.out).mono ?_
            rintro e w3 ⟨ix, ev, rv, rfl, hwf, hev, hrv, hq, hg, hxx⟩
            have HX3 := hide (HXX.out ix hxx)
            have HB3 := hide hq
            have HD3 := hide (HD2.out.kept hg HND.out)
            have HG3 := hide (grown_trans HG2.out hg)
            have HEV := hide hev
            have HRV := hide hrv
            have HWI := hide hwf
            obtain ⟨ino, ikind, ilinks, isize, it, es, rs⟩ := ix
            dsimp only [inoCells] at HEV HRV HWI ⊢
            obtain ⟨ea, ec, hea⟩ := HEV.out.row.of_len
            generalize es.length = le at hea
            subst hea
            obtain ⟨ra, rc, hra⟩ := HRV.out.row.of_len
            generalize rs.length = lr at hra
            subst hra
            clear hq hg HB2 HD2 HG2 HH2 HIN HXX hwf hev hrv hxx
            have d2 : w3.cell? ⟨D, 2, none⟩ = some (.int .i64 0) := HD3.out.cell 2
            have f2 := HD3.out.frozen 2
            have d3 : w3.cell? ⟨D, 3, none⟩ = some (.int .i64 0) := HD3.out.cell 3
            have f3 := HD3.out.frozen 3
            have d4 : w3.cell? ⟨D, 4, none⟩ = some (.int .i64 0) := HD3.out.cell 4
            have f4 := HD3.out.frozen 4
            have d5 : w3.cell? ⟨D, 5, none⟩ = some (.int .i64 0) := HD3.out.cell 5
            have f5 := HD3.out.frozen 5
            have d6 : w3.cell? ⟨D, 6, none⟩ = some (.string ⟨#[]⟩) := HD3.out.cell 6
            have f6 := HD3.out.frozen 6
            have d7 : w3.cell? ⟨D, 7, none⟩ = some (.slice none 0 0) := HD3.out.cell 7
            have f7 := HD3.out.frozen 7
            have d8 : w3.cell? ⟨D, 8, none⟩ = some (.slice none 0 0) := HD3.out.cell 8
            have f8 := HD3.out.frozen 8
            have HD4 := hide (show Blk (((((((w3.setCell ⟨D, 2, none⟩ (.int .i64 ino)).setCell ⟨D, 3, none⟩ (.int .i64 ikind)).setCell ⟨D, 4, none⟩ (.int .i64 ilinks)).setCell ⟨D, 5, none⟩ (.int .i64 isize)).setCell ⟨D, 6, none⟩ (.string it)).setCell ⟨D, 7, none⟩ (.slice ea le ec)).setCell ⟨D, 8, none⟩ (.slice ra lr rc)) D #[.int .i64 2, .int .i64 0, .int .i64 ino, .int .i64 ikind, .int .i64 ilinks, .int .i64 isize, .string it, .slice ea le ec, .slice ra lr rc] 38 from (((((((HD3.out.set 2 (.int .i64 ino)).set 3 (.int .i64 ikind)).set 4 (.int .i64 ilinks)).set 5 (.int .i64 isize)).set 6 (.string it)).set 7 (.slice ea le ec)).set 8 (.slice ra lr rc)))
            have hg7 := grown7at w3 D 2 3 4 5 6 7 8 (.int .i64 ino) (.int .i64 ikind) (.int .i64 ilinks) (.int .i64 isize) (.string it) (.slice ea le ec) (.slice ra lr rc)
            have HB4 := hide (show RdB _ P (.slice (some ⟨bb, boff, none⟩) len cap) ri.2 from Blk.kept HB3.out hg7 (fun e => HND.out e.symm))
            have HG4 := hide (grown_mix HG3.out hg7 (fun j e => by cases e; rw [HDE.out]; exact Nat.le_refl _))
            have HE4 := hide ((HEV.out.grown hg7 (fun j e => by cases e; exact HW2.out)).mono (show P + 1 ≤ V2.heap.size by have := HSZ.out; have := HW2.out; omega))
            have HV4 := hide ((HRV.out.grown hg7 (fun j e => by cases e; exact HW2.out)).mono (show P + 1 ≤ V2.heap.size by have := HSZ.out; have := HW2.out; omega))
            clear hg7 HB3 HD3 HG3 HEV HRV
            go_wp2
            go_meet
            exact ⟨rfl, ⟨⟨2, 0, ⟨ino, ikind, ilinks, isize, it, es, rs⟩⟩, .slice ea le ec, .slice ra lr rc⟩, ri.2, hide ⟨wf_i64 (by simp) (by simp), wf_i64 (by simp) (by simp), HWI.out.no, HWI.out.kind, HWI.out.links, HWI.out.size, HWI.out.t, rfl, rfl⟩, HE4, HV4, HB4, HD4, HG4, HX3⟩
          · have h1 : (k == 1) = false := by simp; omega
            have h2 : (k == 2) = false := by simp; omega
            have h3 : (k == 3) = false := by simp; omega
            have h4 : (k == 4) = false := by simp; omega
            have HE := hide (show (([] : List Dv).map Dv.d, (5 : Int)) = parseS xs by
              have g1 := HP.out
              have g2 := (HUS.out default 0 5 (HNX.out _ _ _ (by rw [if_pos (by omega)]))).1 (by decide)
              have g3 : n - 1 + 1 = n := by have := HN.out; have := HA.out; omega
              rw [g3] at g2
              rw [g1, g2]
              unfold appD
              rw [if_neg (by decide)]
              rfl)
            have HBL := hide (show Below P w V2 from ⟨HH2.out.os.trans HG0.out.os, HH2.out.tape.trans HG0.out.tape, HH2.out.output.trans HG0.out.output, Nat.le_trans HG0.out.size HH2.out.size, fun k hk => (HH2.out.block k (by have := HZ0.out; omega) (by simp; omega)).trans (HG0.out.block k hk)⟩)
            clear HX1 HX2 HNX HNM HIN hkk hk2 hk0 hk1 HUS
            go_wp2
            exact HFin.out _ [] _ _ _ rfl (DMade.nil _ _) HE.out HBL.out
      case rest =>
        obtain ⟨rfl, x, s, HWF, HEV, HRV, HB3, HD3, HG3, HNX3⟩ := hcut
        clear HX1 HX2 HNX HNM HIN hk0 hk1 HB2 HG2 HD2 HH2 HWN HB d0
        have HU := hide (HUS.out _ _ _ HNX3.out)
        have HH3 := hide (grown_trans HG.out HG3.out)
        have HDM := hide (HD.out.grown HG3.out (fun j e => by cases e; omega))
        clear HUS HNX3 HD
        have p2 : wc.cell? ⟨P, 2, none⟩ = some (.bool s.bad) := HB3.out.cell 2
        obtain ⟨sat, sbad⟩ := s
        cases sbad with
        | true =>
          have HE := hide (show (([] : List Dv).map Dv.d, (3 : Int)) = parseS xs by
            have g1 := HP.out
            have g2 : unS (n - 1 + 1) (xs.drop a) = ([], 3) := HU.out.1 (show (3 : Int) ≠ 0 by decide)
            have g3 : n - 1 + 1 = n := by have := HN.out; have := HA.out; omega
            rw [g3] at g2
            rw [g1, g2]
            unfold appD
            rw [if_neg (by decide)]
            rfl)
          have HBL := hide (show Below P w wc from ⟨HH3.out.os.trans HG0.out.os, HH3.out.tape.trans HG0.out.tape, HH3.out.output.trans HG0.out.output, Nat.le_trans HG0.out.size HH3.out.size, fun k hk => (HH3.out.block k (by have := HZ0.out; omega) (by simp; omega)).trans (HG0.out.block k hk)⟩)
          clear HU
          go_wp2
          exact HFin.out _ [] _ _ _ rfl (DMade.nil _ _) HE.out HBL.out
        | false =>
          obtain ⟨a', ha1, ha2, ha3, ha4⟩ := HU.out.2 rfl
          have HHA := hide (And.intro ha2 (And.intro ha3 ha4))
          dsimp only at ha1
          subst ha1
          clear ha2 ha3 ha4 HU
          obtain ⟨⟨kk, nn, ⟨no, kind, links, size, t, es, rs⟩⟩, ev, rv⟩ := x
          dsimp only at HEV HRV HHA
          obtain ⟨ea, ec, hea⟩ := HEV.out.row.of_len
          obtain ⟨ra, rc, hra⟩ := HRV.out.row.of_len
          generalize es.length = le at hea
          generalize rs.length = lr at hra
          subst hea hra
          have e0 : wc.cell? ⟨D, 0, none⟩ = some (.int .i64 kk) := HD3.out.cell 0
          have e1 : wc.cell? ⟨D, 1, none⟩ = some (.int .i64 nn) := HD3.out.cell 1
          have e2 : wc.cell? ⟨D, 2, none⟩ = some (.int .i64 no) := HD3.out.cell 2
          have e3 : wc.cell? ⟨D, 3, none⟩ = some (.int .i64 kind) := HD3.out.cell 3
          have e4 : wc.cell? ⟨D, 4, none⟩ = some (.int .i64 links) := HD3.out.cell 4
          have e5 : wc.cell? ⟨D, 5, none⟩ = some (.int .i64 size) := HD3.out.cell 5
          have e6 : wc.cell? ⟨D, 6, none⟩ = some (.string t) := HD3.out.cell 6
          have e7 : wc.cell? ⟨D, 7, none⟩ = some (.slice ea le ec) := HD3.out.cell 7
          have e8 : wc.cell? ⟨D, 8, none⟩ = some (.slice ra lr rc) := HD3.out.cell 8
          have HRow := hide (show DRow (wc.alloc (.cells #[.int .i64 kk, .int .i64 nn, .int .i64 no, .int .i64 kind, .int .i64 links, .int .i64 size, .string t, .slice ea le ec, .slice ra lr rc] 38)) (.slice (some ⟨wc.heap.size, 0, none⟩) 1 1) [(⟨⟨kk, nn, ⟨no, kind, links, size, t, es, rs⟩⟩, .slice ea le ec, .slice ra lr rc⟩ : Dv)] from deed_new wc _ HWF.out ⟨HEV.out.row, HRV.out.row⟩ _ _ rfl)
          have hba := kl_alloc wc (.cells #[.int .i64 kk, .int .i64 nn, .int .i64 no, .int .i64 kind, .int .i64 links, .int .i64 size, .string t, .slice ea le ec, .slice ra lr rc] 38)
          have HB4 := hide (kl_blk hba HB3.out)
          have HG4 := hide (grown_trans HH3.out (below_grown hba (some P)))
          have HD4 := hide (HDM.out.kept hba)
          have HEV4 := hide (HEV.out.kept hba)
          have HRV4 := hide (HRV.out.kept hba)
          have HSZ4 := hide (show P + 1 ≤ (wc.alloc (.cells #[.int .i64 kk, .int .i64 nn, .int .i64 no, .int .i64 kind, .int .i64 links, .int .i64 size, .string t, .slice ea le ec, .slice ra lr rc] 38)).heap.size by have h1 := hba.size; have h2 := HG3.out.size; have h3 := HSZ.out; have h4 := HDE.out; omega)
          have HF := hide (show ds.length + [(⟨⟨kk, nn, ⟨no, kind, links, size, t, es, rs⟩⟩, .slice ea le ec, .slice ra lr rc⟩ : Dv)].length ≤ 1000000000000 by have h1 := HDL.out; have h2 := HA.out; have h3 := HX.out; simp; omega)
          clear hba HEV HRV HDM HB3 HD3
          go_wp2_with (at_builtin; refine wpList_append_deeds rfl _ _ rfl (P + 1) _ _ ds [(⟨⟨kk, nn, ⟨no, kind, links, size, t, es, rs⟩⟩, .slice ea le ec, .slice ra lr rc⟩ : Dv)] rfl HD4.out.own rfl HRow.out (by intro y hy; rw [List.mem_singleton] at hy; subst hy; exact ⟨.inr (HEV4.out.apart _), .inr (HRV4.out.apart _)⟩) HF.out HSZ4.out ?_)
          intro u5 w5 ho5 hg5
          have HD5 := hide (HD4.out.more HEV4.out HRV4.out ho5 hg5)
          have HB5 := hide (show RdB w5 P (.slice (some ⟨bb, boff, none⟩) len cap) ⟨(a' : Int), false⟩ from Blk.kept HB4.out hg5 (fun e => by have h1 := (HD4.out.own.block P e.symm).1; omega))
          have HG5 := hide (grown_mix HG4.out hg5 (fun j e => by have h1 := (HD4.out.own.block j e).1; have h2 := HZ0.out; omega))
          have c5 : w5.cell? ⟨P, 1, none⟩ = some (.int .i64 (a' : Int)) := HB5.out.cell 1
          have HQ5 := hide (show parseS xs = appD ((ds ++ [(⟨⟨kk, nn, ⟨no, kind, links, size, t, es, rs⟩⟩, .slice ea le ec, .slice ra lr rc⟩ : Dv)]).map Dv.d) (unS (n - 1) (xs.drop a')) by
            have h1 := HP.out
            have h2 := HHA.out.2.2
            have h3 : n - 1 + 1 = n := by have := HN.out; have := HA.out; omega
            rw [h3] at h2
            rw [h1, h2, app_cons, List.map_append]
            rfl)
          have HM := hide (show len - (intOf ((w5.cell? ⟨P, 1, none⟩).getD (.int .i64 0))).toNat < len - (intOf ((wr.cell? ⟨P, 1, none⟩).getD (.int .i64 0))).toNat by rw [c1, c5]; have h1 := HHA.out.1; show len - ((a' : Int)).toNat < len - ((a : Int)).toNat; omega)
          clear ho5 hg5 e0 e1 e2 e3 e4 e5 e6 e7 e8
          go_wp2
          exact ⟨⟨a', n - 1, _, hide HHA.out.2.1, hide (by have h1 := HN.out; have h2 := HHA.out.1; omega), hide (by have h1 := HDL.out; have h2 := HHA.out.1; simp; omega), HB5, HG5, HD5, HQ5⟩, HM.out⟩
    · have hal2 : ¬ ((a : Int) < len) := by omega
      have HE := hide (show (ds.map Dv.d, (0 : Int)) = parseS xs by
        have h1 := HP.out
        obtain ⟨m, rfl⟩ : ∃ m, n = m + 1 := ⟨n - 1, by have := HN.out; have := HA.out; omega⟩
        have ha : a = xs.length := by have := HA.out; rw [HL.out] at this ⊢; omega
        rw [h1, ha, List.drop_length, un_nil]
        simp [appD])
      have HBL := hide (show Below P w wr from ⟨HG.out.os.trans HG0.out.os, HG.out.tape.trans HG0.out.tape, HG.out.output.trans HG0.out.output, Nat.le_trans HG0.out.size HG.out.size, fun k hk => (HG.out.block k (by have := HZ0.out; omega) (by simp; omega)).trans (HG0.out.block k hk)⟩)
      go_wp2
      exact HFin.out _ ds _ _ _ rfl (HD.out.mono (Nat.le_succ _)) HE.out HBL.out
end Go.Proofs.Ytgkmgpjhpplkiaa

/-
  Arguments of any shape, opened, with their bulk: for statements that speak of what is of bulk at most so much.
-/
namespace Go.Proofs.Ytgkmgpjhpplkiaa
open Go.RowKit Go.ChangeShapes Go.WideShapes Go.Deep
set_option linter.unusedVariables false

/-- Whatever reads as a value of type t has cells of which R holds, with its bulk. -/
def OpensN (P : Program) (w : World) (t : TypeId) (R : List Value → Nat → Prop) : Prop :=
  ∀ (H : Type) (enc : TypeId × Value → H) (fuel : Nat) (cs : List Value) (x : DataW H × List MemPlace), DataW.trod enc P w 0 (fun _ => true) true fuel t cs = some x → R cs (Rows.uptoBulk x.1)

theorem bulk_pos {H : Type} (d : DataW H) : 1 ≤ Rows.uptoBulk d := by
  cases d with
  | lit l => cases l <;> simp [Rows.uptoBulk]
  | _ => simp [Rows.uptoBulk]
theorem bulk_sum {H : Type} {α : Type} (wt : α → Nat) (q : Nat → α) (D : Nat → DataW H) (l : List Nat) (h : ∀ i ∈ l, wt (q i) ≤ Rows.uptoBulk (D i)) : ((l.map q).map wt).sum ≤ Rows.uptoBulkAll (l.map D) := by
  induction l with
  | nil => simp
  | cons i r ih =>
    have h1 := h i (List.mem_cons_self ..)
    have h2 := ih fun j hj => h j (List.mem_cons_of_mem _ hj)
    simp only [List.map_cons, List.sum_cons, Rows.uptoBulkAll]
    omega

section
variable {P : Program} {w : World} {t : TypeId}

theorem OpensN.mono {R R' : List Value → Nat → Prop} (h : OpensN P w t R) (hr : ∀ cs n, R cs n → R' cs n) : OpensN P w t R' := fun H enc fuel cs x hx => hr cs _ (h H enc fuel cs x hx)
/-- What is opened with no word of bulk: its bulk is 1 at least. -/
theorem Opens.toN {R : List Value → Prop} (h : Opens P w t R) : OpensN P w t (fun cs n => R cs ∧ 1 ≤ n) := fun H enc fuel cs x hx => ⟨h H enc fuel cs x hx, bulk_pos _⟩
theorem opensN_string (ht : P.underlying t = some .string) : OpensN P w t (fun cs n => ∃ s : ByteArray, cs = [.string s] ∧ s.size ≤ maxLen ∧ s.size + 1 ≤ n) := by
  intro H enc fuel cs x h
  obtain ⟨s, rfl, hs, hr⟩ := DataW.trod_string ht h
  refine ⟨s, rfl, by assumption, ?_⟩
  subst hs
  simp only [Rows.uptoBulk, Array.length_toList]
  exact Nat.le_refl _

theorem opensN_slice {e : TypeId} {α : Type} [Inhabited α] (ht : P.underlying t = some (.slice e)) (f : α → List Value) (Q : α → Prop) (wt : α → Nat) (he : OpensN P w e (fun cs n => ∃ x, cs = f x ∧ Q x ∧ wt x ≤ n)) :
    OpensN P w t (fun cs n => ∃ v xs, cs = [v] ∧ Seq w (P.cellsOf e) f v xs ∧ (∀ x ∈ xs, Q x) ∧ (xs.map wt).sum + 1 ≤ n) := by
  intro H enc fuel cs x h
  rcases open_slice ht h with ⟨rfl, rfl⟩ | ⟨a, len, cap, m, n, D, Pl, rfl, _, hl, hm, hmm, rfl, hx⟩
  · exact ⟨_, [], rfl, ⟨none, 0, rfl, Nat.le_refl _, Nat.zero_le _, fun _ => rfl, fun a h => by cases h⟩, fun x h => (by cases h), by simp [Rows.uptoBulk]⟩
  · simp only [if_true] at hmm
    subst hmm
    have each : ∀ i, i < len → ∃ y : α, (∀ j u, (f y)[j]? = some u → w.cell? (a.add (i * P.cellsOf e + j)) = some u) ∧ Q y ∧ wt y ≤ Rows.uptoBulk (D i) := by
      intro i hi
      obtain ⟨cs', h1, h2⟩ := hx i (by omega)
      obtain ⟨y, rfl, hy⟩ := he H enc n cs' _ h2
      obtain ⟨_, hlen, hcell⟩ := World.cells?_some h1
      refine ⟨y, fun j u hu => ?_, hy⟩
      have hj : j < P.cellsOf e := by rw [← hlen]; exact (List.getElem?_eq_some_iff.1 hu).1
      have := hcell j hj
      rw [add_add] at this
      rw [this, hu]
    obtain ⟨q, hq⟩ := choose_lt each
    refine ⟨_, (List.range len).map q, rfl, ⟨some a, m, by simp, by simpa using hl, hm, by simp, ?_⟩, ?_, ?_⟩
    · intro a' ha i x hx' j u hu
      obtain rfl := Option.some.inj ha
      obtain ⟨hi, rfl⟩ : i < len ∧ q i = x := by
        rw [List.getElem?_map] at hx'
        by_cases hi : i < len
        · rw [List.getElem?_range hi] at hx'
          exact ⟨hi, by simpa using hx'⟩
        · rw [List.getElem?_eq_none (by simp; omega)] at hx'
          cases hx'
      exact (hq i hi).1 j u hu
    · intro x hx'
      obtain ⟨i, hi, rfl⟩ := List.mem_map.1 hx'
      exact (hq i (List.mem_range.1 hi)).2.1
    · have := bulk_sum wt q D (List.range len) fun i hi => (hq i (List.mem_range.1 hi)).2.2
      simp only [Rows.uptoBulk]
      omega
end
end Go.Proofs.Ytgkmgpjhpplkiaa

/-
  Deeds that come in, opened with their bulk.
-/
namespace Go.Proofs.Ytgkmgpjhpplkiaa
open Go.RowKit
set_option linter.unusedVariables false
set_option maxRecDepth 100000

def wtE (e : En) : Nat := e.s.size + 3
def wtR (r : Rn) : Nat := 4
def wtI (x : Ino) : Nat := x.t.size + (x.es.map wtE).sum + (x.rs.map wtR).sum + 8
def wtD (d : Dd) : Nat := wtI d.x + 3
def wtL (l : List Dd) : Nat := (l.map wtD).sum
theorem wtR_sum (l : List Rn) : (l.map wtR).sum = 4 * l.length := by
  induction l with
  | nil => rfl
  | cons r t ih => rw [List.map_cons, List.sum_cons, ih, List.length_cons]; unfold wtR; omega

theorem opensN_entry (w : World) : OpensN Try.prog w 49 (fun cs n => ∃ x : En, cs = x.cells ∧ x.Wf ∧ wtE x ≤ n) := by
  have hI : ∀ w : World, OpensN Try.prog w 3 _ := fun w => (opens_int Try.underlying3).toN
  have hS : ∀ w : World, OpensN Try.prog w 9 _ := fun w => opensN_string Try.underlying9
  intro H enc fuel cs x h
  obtain ⟨xs, n, _, rfl, hl, hlen, hf⟩ := DataW.trod_struct Try.underlying49 h
  have c2 : Try.prog.cellsOf 49 = 2 := by kernel_rfl
  have ci : Try.prog.cellsOf 3 = 1 := by kernel_rfl
  have ct : Try.prog.cellsOf 9 = 1 := by kernel_rfl
  rw [c2] at hl
  match xs, hlen, cs, hl with
  | [y0, y1], _, [v0, v1], _ =>
    have g0 := hf 0 _ rfl
    have g1 := hf 1 _ rfl
    simp [ci, ct] at g0 g1
    obtain ⟨a0, h0, p0, q0⟩ := hS w _ _ _ _ _ g0
    obtain ⟨⟨a1, h1, p1⟩, q1⟩ := hI w _ _ _ _ _ g1
    simp at h0 h1
    subst h0 h1
    exact ⟨⟨a0, a1⟩, rfl, ⟨p0, p1⟩, by simp only [List.map, Rows.uptoBulk, Rows.uptoBulkAll, wtE]; omega⟩
theorem opensN_ents (w : World) : OpensN Try.prog w 33 (fun cs n => ∃ v xs, cs = [v] ∧ ERow w v xs ∧ (xs.map wtE).sum + 1 ≤ n) := by
  have h := opensN_slice Try.underlying33 En.cells En.Wf wtE (opensN_entry w)
  rw [show Try.prog.cellsOf 49 = 2 from by kernel_rfl] at h
  exact h.mono fun cs n ⟨v, xs, h1, h2, h3, h4⟩ => ⟨v, xs, h1, ⟨h2, h3⟩, h4⟩
theorem opensN_run (w : World) : OpensN Try.prog w 67 (fun cs n => ∃ x : Rn, cs = x.cells ∧ x.Wf ∧ wtR x ≤ n) := by
  have hI : ∀ w : World, OpensN Try.prog w 3 _ := fun w => (opens_int Try.underlying3).toN
  intro H enc fuel cs x h
  obtain ⟨xs, n, _, rfl, hl, hlen, hf⟩ := DataW.trod_struct Try.underlying67 h
  have c3 : Try.prog.cellsOf 67 = 3 := by kernel_rfl
  have ci : Try.prog.cellsOf 3 = 1 := by kernel_rfl
  rw [c3] at hl
  match xs, hlen, cs, hl with
  | [y0, y1, y2], _, [v0, v1, v2], _ =>
    have g0 := hf 0 _ rfl
    have g1 := hf 1 _ rfl
    have g2 := hf 2 _ rfl
    simp [ci] at g0 g1 g2
    obtain ⟨⟨a0, h0, p0⟩, q0⟩ := hI w _ _ _ _ _ g0
    obtain ⟨⟨a1, h1, p1⟩, q1⟩ := hI w _ _ _ _ _ g1
    obtain ⟨⟨a2, h2, p2⟩, q2⟩ := hI w _ _ _ _ _ g2
    simp at h0 h1 h2
    subst h0 h1 h2
    exact ⟨⟨a0, a1, a2⟩, rfl, ⟨p0, p1, p2⟩, by simp only [List.map, Rows.uptoBulk, Rows.uptoBulkAll, wtR]; omega⟩
theorem opensN_runs (w : World) : OpensN Try.prog w 34 (fun cs n => ∃ v xs, cs = [v] ∧ RRow w v xs ∧ (xs.map wtR).sum + 1 ≤ n) := by
  have h := opensN_slice Try.underlying34 Rn.cells Rn.Wf wtR (opensN_run w)
  rw [show Try.prog.cellsOf 67 = 3 from by kernel_rfl] at h
  exact h.mono fun cs n ⟨v, xs, h1, h2, h3, h4⟩ => ⟨v, xs, h1, ⟨h2, h3⟩, h4⟩
theorem opensN_inode (w : World) : OpensN Try.prog w 36 (fun cs n => ∃ no kind links size t ev rv es rs, cs = (icells no kind links size t ev rv).toList ∧ InoOk w no kind links size t ev rv es rs ∧ wtI ⟨no, kind, links, size, t, es, rs⟩ ≤ n) := by
  have hI : ∀ w : World, OpensN Try.prog w 3 _ := fun w => (opens_int Try.underlying3).toN
  have hS : ∀ w : World, OpensN Try.prog w 9 _ := fun w => opensN_string Try.underlying9
  intro H enc fuel cs x h
  obtain ⟨xs, n, _, rfl, hl, hlen, hf⟩ := DataW.trod_struct Try.underlying36 h
  have c7 : Try.prog.cellsOf 36 = 7 := by kernel_rfl
  have ci : Try.prog.cellsOf 3 = 1 := by kernel_rfl
  have ct : Try.prog.cellsOf 9 = 1 := by kernel_rfl
  have ce : Try.prog.cellsOf 33 = 1 := by kernel_rfl
  have cr : Try.prog.cellsOf 34 = 1 := by kernel_rfl
  rw [c7] at hl
  match xs, hlen, cs, hl with
  | [y0, y1, y2, y3, y4, y5, y6], _, [v0, v1, v2, v3, v4, v5, v6], _ =>
    have g0 := hf 0 _ rfl
    have g1 := hf 1 _ rfl
    have g2 := hf 2 _ rfl
    have g3 := hf 3 _ rfl
    have g4 := hf 4 _ rfl
    have g5 := hf 5 _ rfl
    have g6 := hf 6 _ rfl
    simp [ci, ct, ce, cr] at g0 g1 g2 g3 g4 g5 g6
    obtain ⟨⟨a0, h0, p0⟩, q0⟩ := hI w _ _ _ _ _ g0
    obtain ⟨⟨a1, h1, p1⟩, q1⟩ := hI w _ _ _ _ _ g1
    obtain ⟨⟨a2, h2, p2⟩, q2⟩ := hI w _ _ _ _ _ g2
    obtain ⟨⟨a3, h3, p3⟩, q3⟩ := hI w _ _ _ _ _ g3
    obtain ⟨a4, h4, p4, q4⟩ := hS w _ _ _ _ _ g4
    obtain ⟨a5, es, h5, p5, q5⟩ := opensN_ents w _ _ _ _ _ g5
    obtain ⟨a6, rs, h6, p6, q6⟩ := opensN_runs w _ _ _ _ _ g6
    simp at h0 h1 h2 h3 h4 h5 h6
    subst h0 h1 h2 h3 h4 h5 h6
    exact ⟨a0, a1, a2, a3, a4, _, _, es, rs, rfl, ⟨p0, p1, p2, p3, p4, p5, p6⟩, by simp only [List.map, Rows.uptoBulk, Rows.uptoBulkAll, wtI] at *; omega⟩
theorem opensN_deed (w : World) : OpensN Try.prog w 38 (fun cs n => ∃ x : Dv, cs = x.cells ∧ (x.Wf ∧ x.Reads w) ∧ wtD x.d ≤ n) := by
  have hI : ∀ w : World, OpensN Try.prog w 3 _ := fun w => (opens_int Try.underlying3).toN
  intro H enc fuel cs x h
  obtain ⟨xs, n, _, rfl, hl, hlen, hf⟩ := DataW.trod_struct Try.underlying38 h
  have c9 : Try.prog.cellsOf 38 = 9 := by kernel_rfl
  have ci : Try.prog.cellsOf 3 = 1 := by kernel_rfl
  have c7 : Try.prog.cellsOf 36 = 7 := by kernel_rfl
  rw [c9] at hl
  match xs, hlen, cs, hl with
  | [y0, y1, y2], _, [v0, v1, v2, v3, v4, v5, v6, v7, v8], _ =>
    have g0 := hf 0 _ rfl
    have g1 := hf 1 _ rfl
    have g2 := hf 2 _ rfl
    simp [ci, c7] at g0 g1 g2
    obtain ⟨⟨a0, h0, p0⟩, r0⟩ := hI w _ _ _ _ _ g0
    obtain ⟨⟨a1, h1, p1⟩, r1⟩ := hI w _ _ _ _ _ g1
    obtain ⟨no, kind, links, size, t, ev, rv, es, rs, h2, ⟨q0, q1, q2, q3, q4, q5, q6⟩, r2⟩ := opensN_inode w _ _ _ _ _ g2
    unfold icells at h2
    simp at h0 h1 h2
    obtain ⟨rfl, rfl, rfl, rfl, rfl, rfl, rfl⟩ := h2
    subst h0 h1
    exact ⟨⟨⟨a0, a1, ⟨no, kind, links, size, t, es, rs⟩⟩, _, _⟩, rfl, ⟨⟨p0, p1, q0, q1, q2, q3, q4, q5.oneCell, q6.oneCell⟩, q5, q6⟩, by simp only [List.map, Rows.uptoBulk, Rows.uptoBulkAll, wtD] at *; omega⟩
theorem opensN_deeds (w : World) : OpensN Try.prog w 22 (fun cs n => ∃ v xs, cs = [v] ∧ DRow w v xs ∧ wtL (xs.map Dv.d) + 1 ≤ n) := by
  have h := opensN_slice Try.underlying22 Dv.cells (fun x => x.Wf ∧ x.Reads w) (fun x => wtD x.d) (opensN_deed w)
  rw [show Try.prog.cellsOf 38 = 9 from by kernel_rfl] at h
  exact h.mono fun cs n ⟨v, xs, h1, h2, h3, h4⟩ => ⟨v, xs, h1, ⟨⟨h2, fun x hx => (h3 x hx).1⟩, fun x hx => (h3 x hx).2⟩, by unfold wtL; rw [List.map_map]; exact h4⟩
end Go.Proofs.Ytgkmgpjhpplkiaa

/-
  garretlaw13's few: are these deeds not too much?
-/
namespace Go.Proofs.Ytgkmgpjhpplkiaa
open Go.RowKit
set_option linter.unusedVariables false
set_option maxRecDepth 100000

def sizE (e : En) : Nat := 10 + e.s.size
def sizD (d : Dd) : Nat := 10 + d.x.t.size + d.x.rs.length + (d.x.es.map sizE).sum
def sizL (l : List Dd) : Nat := (l.map sizD).sum
theorem sum_le {α : Type} (f g : α → Nat) (l : List α) (h : ∀ x ∈ l, f x ≤ 10 * g x) : (l.map f).sum ≤ 10 * (l.map g).sum := by
  induction l with
  | nil => simp
  | cons a t ih =>
    have h1 := h a (List.mem_cons_self ..)
    have h2 := ih fun x hx => h x (List.mem_cons_of_mem _ hx)
    simp only [List.map_cons, List.sum_cons]
    omega
theorem sizD_le (d : Dd) : sizD d ≤ 10 * wtD d := by
  have h1 := sum_le sizE wtE d.x.es fun e _ => by unfold sizE wtE; omega
  have h2 := wtR_sum d.x.rs
  unfold sizD wtD wtI
  omega
theorem sizL_le (l : List Dd) : sizL l ≤ 10 * wtL l := sum_le sizD wtD l fun d _ => sizD_le d
theorem sum_take {α : Type} [Inhabited α] (f : α → Nat) (l : List α) (k : Nat) (h : k < l.length) : ((l.take (k + 1)).map f).sum = ((l.take k).map f).sum + f (l.getD k default) := by
  rw [List.take_succ_eq_append_getElem h, List.map_append, List.sum_append]
  simp [List.getD, List.getElem?_eq_getElem h]
theorem sum_upto {α : Type} (f : α → Nat) (l : List α) (k : Nat) : ((l.take k).map f).sum ≤ (l.map f).sum := by
  have : (l.map f).sum = ((l.take k).map f).sum + ((l.drop k).map f).sum := by rw [← List.sum_append, ← List.map_append, List.take_append_drop]
  omega

set_option maxHeartbeats 8000000 in
theorem few_any (w : World) (v : Value) (xs : List Dv) (h : DRow w v xs) (hn : wtL (xs.map Dv.d) + 1 ≤ 1048576) :
    Calls Try.prog 8 #[v] w (SaysB (decide (sizL (xs.map Dv.d) ≤ 4000)) w) := by
  have hS := sizL_le (xs.map Dv.d)
  have hlen := h.lenRun
  have hlm := h.len
  unfold maxLen at hlm
  obtain ⟨f, hf⟩ : ∃ f : Dv → Nat, f = fun x => sizD x.d := ⟨_, rfl⟩
  have eS : sizL (xs.map Dv.d) = (xs.map f).sum := by unfold sizL; rw [List.map_map, hf]; rfl
  rw [eS] at hS ⊢
  have hmax : (xs.map f).sum ≤ 10485760 := by omega
  have HF := hide hf
  have HD := hide h
  clear h hn hS eS hf
  obtain ⟨len, hL⟩ : ∃ n, xs.length = n := ⟨_, rfl⟩
  have HL := hide hL
  simp only [hL] at hlen
  rw [hL] at hlm
  clear hL
  go_enter Try.func8, Try.ntmps8
  go_wp2
  go_loopw [3, 4] (fun n i wr => ∃ k s : Nat, k ≤ len ∧ i = .int .i64 k ∧ n = .int .i64 s ∧ Hid (s = ((xs.take k).map f).sum) ∧ Hid (Below w.heap.size w wr)) (fun _ i _ => len - (intOf i).toNat)
  case atStart => exact ⟨0, 0, Nat.zero_le _, rfl, rfl, hide (by simp), hide (Below.refl _ _)⟩
  case round =>
    obtain ⟨k, s, hk, rfl, rfl, HS, HB⟩ := hrel
    by_cases hlt : k < len
    · have hlt' : (k : Int) < len := by omega
      have hkx : k < xs.length := by rw [HL.out]; exact hlt
      obtain ⟨b, o, hbs, hidx, hc⟩ := (HD.out.below HB.out).idx k hkx
      have hsum := sum_take f xs k hkx
      have hup := sum_upto f xs (k + 1)
      have hrd := (HD.out.below HB.out).2 (xs.getD k default) (by rw [List.getD, List.getElem?_eq_getElem hkx]; exact List.getElem_mem hkx)
      have hwf := HD.out.1.2 (xs.getD k default) (by rw [List.getD, List.getElem?_eq_getElem hkx]; exact List.getElem_mem hkx)
      rw [← HS.out] at hsum
      generalize xs.getD k default = x at *
      rw [hsum] at hup
      have HN := hide hsum
      have efx : f x = sizD x.d := by rw [HF.out]
      rw [efx] at hup
      rw [efx] at HN
      obtain ⟨⟨kk, nn, ⟨no, kind, links, size, t, es, rs⟩⟩, ev, rv⟩ := x
      have ht := hwf.t
      simp only [maxLen] at ht
      obtain ⟨hre, hrr⟩ := hrd
      simp only [sizD] at hup HN
      dsimp only at hre hrr
      obtain ⟨ea, ec, hev⟩ := hre.of_len
      obtain ⟨ra, rc, hrv⟩ := hrr.of_len
      subst hev hrv
      have p2 : wr.cell? ⟨b, o + 2, none⟩ = some (.int .i64 no) := hc 2 _ rfl
      have p3 : wr.cell? ⟨b, o + 3, none⟩ = some (.int .i64 kind) := hc 3 _ rfl
      have p4 : wr.cell? ⟨b, o + 4, none⟩ = some (.int .i64 links) := hc 4 _ rfl
      have p5 : wr.cell? ⟨b, o + 5, none⟩ = some (.int .i64 size) := hc 5 _ rfl
      have p6 : wr.cell? ⟨b, o + 6, none⟩ = some (.string t) := hc 6 _ rfl
      have p7 : wr.cell? ⟨b, o + 7, none⟩ = some (.slice ea es.length ec) := hc 7 _ rfl
      have p8 : wr.cell? ⟨b, o + 8, none⟩ = some (.slice ra rs.length rc) := hc 8 _ rfl
      have hlr := hrr.lenRun
      have hle := hre.lenRun
      have hlem := hre.len
      unfold maxLen at hlem
      have hB1 := kl_alloc wr (.cells #[.int .i64 no, .int .i64 kind, .int .i64 links, .int .i64 size, .string t, .slice ea es.length ec, .slice ra rs.length rc] 36)
      have hBl := Blk.new wr #[.int .i64 no, .int .i64 kind, .int .i64 links, .int .i64 size, .string t, .slice ea es.length ec, .slice ra rs.length rc] 36
      have HRE := hide (hre.below hB1)
      have HB1 := hide (kl_step hB1 HB.out)
      have HBL := hide hBl
      have hsr := sum_upto sizE es
      have hse := sum_take sizE es
      have HAL := hide (show ((es.take es.length).map sizE).sum = (es.map sizE).sum by rw [List.take_length])
      clear hre hrr hc hwf hBl hB1 hsum efx ht
      generalize rs.length = lr at *
      obtain ⟨le, hLe⟩ : ∃ n, n = es.length := ⟨_, rfl⟩
      have HLE := hide hLe
      rw [← hLe] at hle hlem HBL HRE HB1 HAL p7
      clear hLe
      go_upto_region 6 with fail
      generalize wr.alloc (.cells #[.int .i64 no, .int .i64 kind, .int .i64 links, .int .i64 size, .string t, .slice ea le ec, .slice ra lr rc] 36) = V at *
      generalize wr.heap.size = g at *
      clear p2 p3 p4 p5 p6 p7 p8
      have q4 : V.cell? ⟨g, 4, none⟩ = some (.string t) := HBL.out.cell 4
      have q5 : V.cell? ⟨g, 5, none⟩ = some (.slice ea le ec) := HBL.out.cell 5
      have q6 : V.cell? ⟨g, 6, none⟩ = some (.slice ra lr rc) := HBL.out.cell 6
      generalize hSE : (es.map sizE).sum = SE at *
      clear hSE
      generalize hts : t.size = ts at *
      go_wp2
      go_loopw [3, 6] (fun n j wr => ∃ m u : Nat, m ≤ le ∧ j = .int .i64 m ∧ n = .int .i64 u ∧ u = s + 10 + ts + lr + ((es.take m).map sizE).sum ∧ wr = V) (fun _ j _ => le - (intOf j).toNat)
      case atStart => exact ⟨0, s + 10 + ts + lr, Nat.zero_le _, rfl, congrArg (Value.int .i64) (by omega), by simp, rfl⟩
      case round =>
        obtain ⟨m, u, hm, rfl, rfl, hu, rfl⟩ := hrel
        by_cases hmt : m < le
        · have hmt' : (m : Int) < le := by omega
          have hmx : m < es.length := by rw [← HLE.out]; exact hmt
          obtain ⟨b2, o2, hb2, hid2, c0, _⟩ := HRE.out.idx m hmx
          have h1 := hse m hmx
          have h2 := hsr (m + 1)
          generalize es.getD m default = y at *
          obtain ⟨ys, yn⟩ := y
          simp only [sizE] at h1
          rw [h1] at h2
          have HU := hide (show u + 10 + ys.size = s + 10 + ts + lr + ((es.take (m + 1)).map sizE).sum by omega)
          generalize ((es.take m).map sizE).sum = Sm at *
          generalize hSn : ((es.take (m + 1)).map sizE).sum = Sn at *
          have HSn := hide hSn
          clear hSn
          go_wp2
          exact ⟨⟨m + 1, s + 10 + ts + lr + Sm + 10 + ys.size, by omega, by go_num, congrArg (Value.int .i64) (by omega), by have h1 := HU.out; rw [HSn.out]; omega, trivial⟩, by simp [intOf]; omega⟩
        · obtain rfl : m = le := by omega
          go_wp2
          exact ⟨⟨k + 1, u, by omega, by go_num, rfl, hide (by have h1 := HN.out; have h2 := HAL.out; omega), HB1⟩, by simp [intOf]; omega⟩
    · obtain rfl : k = len := by omega
      have HE := hide (show s = (xs.map f).sum by rw [HS.out, List.take_of_length_le (by rw [HL.out]; exact Nat.le_refl _)])
      go_wp2
      go_ret
      exact ⟨ret_one (congrArg Value.bool (decide_eq_decide.2 (by have := HE.out; omega))), HB.out⟩
end Go.Proofs.Ytgkmgpjhpplkiaa

/-
  Few deeds are few bytes.
-/
namespace Go.Proofs.Ytgkmgpjhpplkiaa
open Go.RowKit
set_option linter.unusedVariables false
set_option maxRecDepth 100000

theorem flat_le {α : Type} (f : α → List Int) (g : α → Nat) (l : List α) (h : ∀ x, (f x).length ≤ 24 * g x) : (l.flatMap f).length ≤ 24 * (l.map g).sum := by
  induction l with
  | nil => simp
  | cons a t ih =>
    have h1 := h a
    rw [List.flatMap_cons, List.length_append, List.map_cons, List.sum_cons]
    omega
theorem packRs_length (l : List Rn) : (l.flatMap packR).length = 24 * l.length := by
  induction l with
  | nil => rfl
  | cons a t ih => rw [List.flatMap_cons, List.length_append, packR_length, ih, List.length_cons]; omega
theorem packD_le (d : Dd) : (packD d).length ≤ 24 * sizD d := by
  have h1 := flat_le packE sizE d.x.es fun e => by rw [packE_length]; unfold sizE; omega
  have h2 := packRs_length d.x.rs
  have h3 := packI_length d.x
  unfold sizD packD
  rw [List.length_cons]
  split
  · rw [n8_length]; omega
  · split
    · omega
    · simp only [List.length_nil]; omega
theorem packL_le (l : List Dd) : (packL l).length ≤ 24 * sizL l := flat_le packD sizD l packD_le
/-- Few deeds are packed in less than a hundred thousand bytes. -/
theorem packL_few {l : List Dd} (h : sizL l ≤ 4000) : (packL l).length ≤ 96000 := by have := packL_le l; omega
theorem length_few {l : List Dd} (h : sizL l ≤ 4000) : l.length ≤ 400 := by
  have : 10 * l.length ≤ sizL l := by
    unfold sizL
    clear h
    induction l with
    | nil => simp
    | cons a t ih => rw [List.map_cons, List.sum_cons, List.length_cons]; unfold sizD at *; omega
  omega
/-- What 'clean' makes of few deeds is few. -/
theorem sizD_drop (d : Dd) (x : Ino) (h : x = d.x ∨ x = noI) (k n : Int) : sizD ⟨k, n, x⟩ ≤ sizD d := by
  rcases h with rfl | rfl
  · exact Nat.le_refl _
  · unfold sizD noI
    simp
    omega
end Go.Proofs.Ytgkmgpjhpplkiaa

/-
  The contracts of package runs' small functions: isWithin, goesOn, isBehind, has.
-/
namespace Go.Proofs.Ytgkmgpjhpplkiaa
open Go.RowKit
set_option linter.unusedVariables false
set_option maxRecDepth 100000

theorem of_wf64 {n : Int} (h : (Lit.int .i64 n).wf = true) : -9223372036854775808 ≤ n ∧ n ≤ 9223372036854775807 := by
  simp [Lit.wf, IntKind.min, IntKind.max, IntKind.signed, IntKind.bits] at h; omega


/-- Of numbers that do not go round. -/
structure Rn.Mild (r : Rn) : Prop where
  f : -1000000 ≤ r.f ∧ r.f ≤ 1000000
  a : -5000000000 ≤ r.a ∧ r.a ≤ 5000000000
  n : -1000000 ≤ r.n ∧ r.n ≤ 1000000
theorem Rn.mild_of (r : Rn) (h : withinS r = true) : r.Mild := by
  have := within_iff.1 h
  exact ⟨by omega, by omega, by omega⟩
theorem Rn.Mild.wf {r : Rn} (h : r.Mild) : r.Wf := by
  obtain ⟨h1, h2, h3⟩ := h
  exact ⟨wf_i64 (by omega) (by omega), wf_i64 (by omega) (by omega), wf_i64 (by omega) (by omega)⟩

end Go.Proofs.Ytgkmgpjhpplkiaa

/-
  A region that draws its order, walked by hand where a guard says no: one operation that is not wanted; one that yields; one that alone may come up.
-/
namespace Go.Proofs.Ytgkmgpjhpplkiaa
open Go.RowKit
set_option linter.unusedVariables false

section
variable {P : Program} {l rest : List Oper} {Q : Exit → Act → World → Prop} {md : Region.Mode} {S : World → Prop} {fuel : Nat} {listed : Array Bool} {a : Act} {w : World} {o : Oper}
theorem drop_get {i : Nat} (hd : l.drop i = o :: rest) : l.toArray[i]? = some o := by
  have : (l.drop i)[0]? = some o := by rw [hd]; rfl
  simpa using this
/-- Not wanted. -/
theorem any_no (i : Nat) (hd : l.drop i = o :: rest) (hs : Region.noSelect l.toArray = true) (hf : Region.free md l.toArray listed i = true) (hr : (Region.ready md l.toArray listed).contains i = true)
    (hQ : ∀ c a w, Q (.panic c) (a.put o.dst undef) w → Q (.panic c) a w) (hw : Region.wanted o (yielded l.toArray a.tmps) = false) (hS : S w)
    (h : wpAnyH P md l.toArray Q S fuel (listed.setIfInBounds i true) (a.put o.dst undef) w) : wpAnyH P md l.toArray Q S (fuel + 1) listed a w :=
  wpAnyH_take (drop_get hd) hs hf hr hQ (Or.inr ⟨hw, rfl⟩) hS h
/-- Wanted, and it yields v in every world that meets S. -/
theorem any_yes (i : Nat) (v : Value) (hd : l.drop i = o :: rest) (hs : Region.noSelect l.toArray = true) (hf : Region.free md l.toArray listed i = true) (hr : (Region.ready md l.toArray listed).contains i = true)
    (hQ : ∀ c a w, Q (.panic c) (a.put o.dst v) w → Q (.panic c) a w) (hw : Region.wanted o (yielded l.toArray a.tmps) = true) (hv : ∀ w, S w → (execOp a.eval o).run P w = .ok (.value v) w) (hS : S w)
    (h : wpAnyH P md l.toArray Q S fuel (listed.setIfInBounds i true) (a.put o.dst v) w) : wpAnyH P md l.toArray Q S (fuel + 1) listed a w :=
  wpAnyH_take (drop_get hd) hs hf hr hQ (Or.inl ⟨hw, hv⟩) hS h
/-- It alone may come up. -/
theorem any_one (i : Nat) (hr : Region.ready md l.toArray listed = [i]) (hd : l.drop i = o :: rest) (hw : Region.wanted o (yielded l.toArray a.tmps) = true)
    (h : ∀ K' : Act → World → Prop, Shut (∀ a w, S w → (S w → wpAnyH P md l.toArray Q S fuel (listed.setIfInBounds i true) a w) → K' a w) → Oper.wp P o a w K' Q) : wpAnyH P md l.toArray Q S (fuel + 1) listed a w :=
  wpAnyH_ready hr (by simp) (AllReadyH.cons (drop_get hd) (fun K' hK => by rw [if_pos hw]; exact h K' hK) .nil)
end
end Go.Proofs.Ytgkmgpjhpplkiaa

/-
  The contracts of package runs: Right.
-/
namespace Go.Proofs.Ytgkmgpjhpplkiaa
open Go.RowKit
set_option linter.unusedVariables false
set_option maxRecDepth 100000

/-- Six cells that are read, and all that is old, as they were. -/
def Six (b o c : Nat) (r p : Rn) (w0 w' : World) : Prop :=
  ((w'.cell? ⟨b, o, none⟩ = some (.int .i64 p.f) ∧ w'.cell? ⟨b, o + 1, none⟩ = some (.int .i64 p.a) ∧ w'.cell? ⟨b, o + 2, none⟩ = some (.int .i64 p.n)) ∧
   (w'.cell? ⟨c, 0, none⟩ = some (.int .i64 r.f) ∧ w'.cell? ⟨c, 1, none⟩ = some (.int .i64 r.a) ∧ w'.cell? ⟨c, 2, none⟩ = some (.int .i64 r.n))) ∧ Below w0.heap.size w0 w'
theorem Six.step {b o c : Nat} {r p : Rn} {w0 w w' : World} (hb : Below w.heap.size w w') (h : Six b o c r p w0 w) : Six b o c r p w0 w' := by
  obtain ⟨⟨⟨h0, h1, h2⟩, h3, h4, h5⟩, h6⟩ := h
  exact ⟨⟨⟨kl_cell hb h0, kl_cell hb h1, kl_cell hb h2⟩, kl_cell hb h3, kl_cell hb h4, kl_cell hb h5⟩, h6.trans (hb.mono h6.size)⟩
theorem Six.below {b o c : Nat} {r p : Rn} {w0 w : World} (h : Six b o c r p w0 w) : Below w0.heap.size w0 w := h.2

theorem three_step {c : Nat} {x y z : Value} {w0 w w' : World} (hb : Below w.heap.size w w') (h : (w.cell? ⟨c, 0, none⟩ = some x ∧ w.cell? ⟨c, 1, none⟩ = some y ∧ w.cell? ⟨c, 2, none⟩ = some z) ∧ Below w0.heap.size w0 w) :
    (w'.cell? ⟨c, 0, none⟩ = some x ∧ w'.cell? ⟨c, 1, none⟩ = some y ∧ w'.cell? ⟨c, 2, none⟩ = some z) ∧ Below w0.heap.size w0 w' :=
  ⟨⟨kl_cell hb h.1.1, kl_cell hb h.1.2.1, kl_cell hb h.1.2.2⟩, h.2.trans (hb.mono h.2.size)⟩
theorem three_below {w0 w : World} {A : Prop} (h : A ∧ Below w0.heap.size w0 w) : Below w0.heap.size w0 w := h.2

end Go.Proofs.Ytgkmgpjhpplkiaa

/-
  Two rows of runs held against each other: garrethelp's Plain.
-/
namespace Go.Proofs.Ytgkmgpjhpplkiaa
open Go.RowKit
set_option linter.unusedVariables false
set_option maxRecDepth 100000

theorem Rn.ext3 {x y : Rn} (h1 : x.f = y.f) (h2 : x.a = y.a) (h3 : x.n = y.n) : x = y := by
  cases x; cases y; simp at h1 h2 h3; subst h1 h2 h3; rfl
instance : DecidableEq Rn := fun x y => decidable_of_iff (x.f = y.f ∧ x.a = y.a ∧ x.n = y.n) ⟨fun h => Rn.ext3 h.1 h.2.1 h.2.2, fun h => by subst h; exact ⟨rfl, rfl, rfl⟩⟩

set_option maxHeartbeats 1000000 in
theorem oneR_any (w : World) (f a n f' a' n' : Int) : Calls Try.prog 46 #[.agg #[.int .i64 f, .int .i64 a, .int .i64 n], .agg #[.int .i64 f', .int .i64 a', .int .i64 n']] w (SaysB (decide ((⟨f, a, n⟩ : Rn) = ⟨f', a', n'⟩)) w) := by
  have hB : Below w.heap.size w ((w.alloc (.cells #[.int .i64 f, .int .i64 a, .int .i64 n] 67)).alloc (.cells #[.int .i64 f', .int .i64 a', .int .i64 n'] 67)) := ((Below.refl _ _).alloc (Nat.le_refl _) _).alloc (by simp) _
  have HB := hide hB
  clear hB
  have hparts : (f = f' ∧ a = a' ∧ n = n') ∨ ((f == f') = false ∧ ¬ (⟨f, a, n⟩ : Rn) = ⟨f', a', n'⟩) ∨ (f = f' ∧ (a == a') = false ∧ ¬ (⟨f, a, n⟩ : Rn) = ⟨f', a', n'⟩) ∨ (f = f' ∧ a = a' ∧ (n == n') = false ∧ ¬ (⟨f, a, n⟩ : Rn) = ⟨f', a', n'⟩) := by
    by_cases h1 : f = f'
    · by_cases h2 : a = a'
      · by_cases h3 : n = n'
        · exact .inl ⟨h1, h2, h3⟩
        · exact .inr (.inr (.inr ⟨h1, h2, beq_eq_false_iff_ne.2 h3, fun h => h3 (by simpa using congrArg Rn.n h)⟩))
      · exact .inr (.inr (.inl ⟨h1, beq_eq_false_iff_ne.2 h2, fun h => h2 (by simpa using congrArg Rn.a h)⟩))
    · exact .inr (.inl ⟨beq_eq_false_iff_ne.2 h1, fun h => h1 (by simpa using congrArg Rn.f h)⟩)
  rcases hparts with ⟨rfl, rfl, rfl⟩ | ⟨h1, h4⟩ | ⟨rfl, h2, h4⟩ | ⟨rfl, rfl, h3, h4⟩
  · rw [decide_eq_true rfl]
    go_enter Try.func46, Try.ntmps46
    go_wp2
    go_ret
    exact ⟨rfl, HB.out⟩
  · rw [decide_eq_false h4]
    clear h4
    go_enter Try.func46, Try.ntmps46
    go_wp2
    go_ret
    exact ⟨rfl, HB.out⟩
  · rw [decide_eq_false h4]
    clear h4
    go_enter Try.func46, Try.ntmps46
    go_wp2
    go_ret
    exact ⟨rfl, HB.out⟩
  · rw [decide_eq_false h4]
    clear h4
    go_enter Try.func46, Try.ntmps46
    go_wp2
    go_ret
    exact ⟨rfl, HB.out⟩

theorem take_sameR {xs ys : List Rn} {k : Nat} (hx : k < xs.length) (hy : k < ys.length) (h : xs.take k = ys.take k) (e : xs.getD k default = ys.getD k default) : xs.take (k + 1) = ys.take (k + 1) := by
  rw [take_moreR hx, take_moreR hy, h, e]

/-- Two runs that are read. -/
def Two6 (b o c q : Nat) (r p : Rn) (w0 w' : World) : Prop :=
  ((w'.cell? ⟨b, o, none⟩ = some (.int .i64 p.f) ∧ w'.cell? ⟨b, o + 1, none⟩ = some (.int .i64 p.a) ∧ w'.cell? ⟨b, o + 2, none⟩ = some (.int .i64 p.n)) ∧
   (w'.cell? ⟨c, q, none⟩ = some (.int .i64 r.f) ∧ w'.cell? ⟨c, q + 1, none⟩ = some (.int .i64 r.a) ∧ w'.cell? ⟨c, q + 2, none⟩ = some (.int .i64 r.n))) ∧ Below w0.heap.size w0 w'
theorem Two6.step {b o c q : Nat} {r p : Rn} {w0 w w' : World} (hb : Below w.heap.size w w') (h : Two6 b o c q r p w0 w) : Two6 b o c q r p w0 w' := by
  obtain ⟨⟨⟨h0, h1, h2⟩, h3, h4, h5⟩, h6⟩ := h
  exact ⟨⟨⟨kl_cell hb h0, kl_cell hb h1, kl_cell hb h2⟩, kl_cell hb h3, kl_cell hb h4, kl_cell hb h5⟩, h6.trans (hb.mono h6.size)⟩

set_option maxHeartbeats 4000000 in
theorem SameR_any (w : World) (a b : Value) (xs ys : List Rn) (ha : RRow w a xs) (hb : RRow w b ys) :
    Calls Try.prog 45 #[a, b, .func (.func 46) #[] #[]] w (SaysB (decide (xs = ys)) w) := by
  have hla := ha.lenRun
  have hlb := hb.lenRun
  have hxm := ha.len
  unfold maxLen at hxm
  have HA := hide ha
  have HB := hide hb
  clear ha hb
  by_cases hn : xs.length = ys.length
  · obtain ⟨len, hL⟩ : ∃ n, xs.length = n := ⟨_, rfl⟩
    have HX := hide hL
    have HY := hide (hn.symm.trans hL)
    simp only [← hn] at hlb
    rw [hL] at hxm
    simp only [hL] at hla hlb
    clear hL hn
    go_enter Try.func45, Try.ntmps45
    go_wp2
    go_loopw [7] (fun i wr => ∃ k : Nat, k ≤ len ∧ i = .int .i64 k ∧ xs.take k = ys.take k ∧ Below w.heap.size w wr) (fun i _ => len - (intOf i).toNat)
    case atStart => exact ⟨0, Nat.zero_le _, rfl, by simp, Below.refl _ _⟩
    case round =>
      obtain ⟨k, hk, rfl, htk, hbk⟩ := hrel
      have HT := hide htk
      clear htk
      by_cases hlt : k < len
      · have hlt' : (k : Int) < len := by omega
        have hkx : k < xs.length := by rw [HX.out]; exact hlt
        have hky : k < ys.length := by rw [HY.out]; exact hlt
        obtain ⟨ba, oa, hsa, hia, a0, a1, a2⟩ := (HA.out.below hbk).idx k hkx
        obtain ⟨bb, ob, hsb, hib, b0, b1, b2⟩ := (HB.out.below hbk).idx k hky
        have hmt := take_sameR hkx hky HT.out
        have hmf : xs.getD k default ≠ ys.getD k default → decide (xs = ys) = false := fun h => decide_eq_false (fun e => h (by rw [e]))
        generalize xs.getD k default = x at *
        generalize ys.getD k default = y at *
        obtain ⟨f, a, n⟩ := x
        obtain ⟨f', a', n'⟩ := y
        simp only at a0 a1 a2 b0 b1 b2
        have hon := fun w => oneR_any w f a n f' a' n'
        have HS : Hid (Two6 ba oa bb ob ⟨f', a', n'⟩ ⟨f, a, n⟩ wr wr) := hide ⟨⟨⟨a0, a1, a2⟩, b0, b1, b2⟩, Below.refl _ _⟩
        have HMT := hide hmt
        have HMF := hide hmf
        have HBK := hide hbk
        clear hmt hmf a0 a1 a2 b0 b1 b2 hbk
        generalize hd : decide ((⟨f, a, n⟩ : Rn) = ⟨f', a', n'⟩) = d at *
        have HD := hide hd
        clear hd
        go_wp2_with fail
        go_region_held3 (fun w' => ((w'.cell? ⟨ba, oa, none⟩ = some (.int .i64 f) ∧ w'.cell? ⟨ba, oa + 1, none⟩ = some (.int .i64 a) ∧ w'.cell? ⟨ba, oa + 2, none⟩ = some (.int .i64 n)) ∧
   (w'.cell? ⟨bb, ob, none⟩ = some (.int .i64 f') ∧ w'.cell? ⟨bb, ob + 1, none⟩ = some (.int .i64 a') ∧ w'.cell? ⟨bb, ob + 2, none⟩ = some (.int .i64 n'))) ∧ Below wr.heap.size wr w')
          (first
            | assumption
            | exact Two6.step (kl_drew _) HS.out
            | exact Two6.step hb9 (show Two6 ba oa bb ob ⟨f', a', n'⟩ ⟨f, a, n⟩ wr _ by assumption)
            | fail)
          (first
            | (go_at_call 46; refine (hon _).mono ?_; rintro x w9 ⟨rfl, hb9⟩)
            | fail)
        have hX : Two6 ba oa bb ob ⟨f', a', n'⟩ ⟨f, a, n⟩ wr w9 := by assumption
        have hB9 : Below w.heap.size w w9 := HBK.out.trans (hX.2.mono HBK.out.size)
        clear hX hb9
        cases d with
        | true =>
          have HN := hide (HMT.out (of_decide_eq_true HD.out))
          go_wp2
          exact ⟨⟨k + 1, by omega, by go_num, HN.out, hB9⟩, by simp [intOf]; omega⟩
        | false =>
          have HN := hide (HMF.out (of_decide_eq_false HD.out))
          go_wp2
          go_ret
          exact ⟨ret_one (congrArg Value.bool HN.out.symm), hB9⟩
      · obtain rfl : k = len := by omega
        have HD := hide (show decide (xs = ys) = true from decide_eq_true (by
          have := HT.out
          rwa [List.take_of_length_le (by rw [HX.out]; exact Nat.le_refl _), List.take_of_length_le (by rw [HY.out]; exact Nat.le_refl _)] at this))
        go_wp2
        go_ret
        exact ⟨ret_one (congrArg Value.bool HD.out.symm), hbk⟩
  · have hne : ((xs.length : Int) != (ys.length : Int)) = true := by simp; omega
    rw [show decide (xs = ys) = false from decide_eq_false (fun e => hn (by rw [e]))]
    generalize xs.length = n at *
    generalize ys.length = m at *
    clear hn
    go_enter Try.func45, Try.ntmps45
    go_wp2
    go_ret
    exact ⟨rfl, Below.refl _ _⟩

theorem PlainR_any (w : World) (a b : Value) (xs ys : List Rn) (ha : RRow w a xs) (hb : RRow w b ys) :
    Calls Try.prog 31 #[a, b] w (SaysB (decide (xs = ys)) w) := by
  have hs := SameR_any w a b xs ys ha hb
  generalize decide (xs = ys) = d at *
  clear ha hb
  go_enter Try.func31, Try.ntmps31
  go_wp2_with fail
  refine hs.mono ?_
  rintro e w1 ⟨rfl, hb1⟩
  go_wp2
  go_ret
  exact ⟨rfl, hb1⟩
end Go.Proofs.Ytgkmgpjhpplkiaa

/-
  Two rows of entries held against each other: garrethelp's Plain.
-/
namespace Go.Proofs.Ytgkmgpjhpplkiaa
open Go.RowKit
set_option linter.unusedVariables false
set_option maxRecDepth 100000

instance : DecidableEq En := fun x y => decidable_of_iff (bl x.s = bl y.s ∧ x.n = y.n) ⟨fun h => En.ext' h.1 h.2, fun h => by subst h; exact ⟨rfl, rfl⟩⟩
theorem take_moreE {l : List En} {k : Nat} (h : k < l.length) : l.take (k + 1) = l.take k ++ [l.getD k default] := by
  rw [List.take_succ_eq_append_getElem h]; simp [List.getD, List.getElem?_eq_getElem h]

set_option maxHeartbeats 1000000 in
theorem oneE_any (w : World) (f : ByteArray) (a : Int) (f' : ByteArray) (a' : Int) : Calls Try.prog 44 #[.agg #[.string f, .int .i64 a], .agg #[.string f', .int .i64 a']] w (SaysB (decide ((⟨f, a⟩ : En) = ⟨f', a'⟩)) w) := by
  have hB : Below w.heap.size w ((w.alloc (.cells #[.string f, .int .i64 a] 49)).alloc (.cells #[.string f', .int .i64 a'] 49)) := ((Below.refl _ _).alloc (Nat.le_refl _) _).alloc (by simp) _
  have HB := hide hB
  clear hB
  have hparts : (f = f' ∧ a = a') ∨ ((f.toList == f'.toList) = false ∧ ¬ (⟨f, a⟩ : En) = ⟨f', a'⟩) ∨ (f = f' ∧ (a == a') = false ∧ ¬ (⟨f, a⟩ : En) = ⟨f', a'⟩) := by
    by_cases h1 : f = f'
    · by_cases h2 : a = a'
      · exact .inl ⟨h1, h2⟩
      · exact .inr (.inr ⟨h1, beq_eq_false_iff_ne.2 h2, fun h => h2 (by simpa using congrArg En.n h)⟩)
    · refine .inr (.inl ⟨beq_eq_false_iff_ne.2 fun h => h1 ?_, fun h => h1 (by simpa using congrArg En.s h)⟩)
      rw [Lib.toList_data, Lib.toList_data] at h
      exact bl_inj h
  rcases hparts with ⟨rfl, rfl⟩ | ⟨h1, h4⟩ | ⟨rfl, h2, h4⟩
  · rw [decide_eq_true rfl]
    go_enter Try.func44, Try.ntmps44
    go_wp2
    go_ret
    exact ⟨rfl, HB.out⟩
  · rw [decide_eq_false h4]
    clear h4
    go_enter Try.func44, Try.ntmps44
    go_wp2
    go_ret
    exact ⟨rfl, HB.out⟩
  · rw [decide_eq_false h4]
    clear h4
    go_enter Try.func44, Try.ntmps44
    go_wp2
    go_ret
    exact ⟨rfl, HB.out⟩

theorem take_same {xs ys : List En} {k : Nat} (hx : k < xs.length) (hy : k < ys.length) (h : xs.take k = ys.take k) (e : xs.getD k default = ys.getD k default) : xs.take (k + 1) = ys.take (k + 1) := by
  rw [take_moreE hx, take_moreE hy, h, e]

/-- Two entries that are read. -/
def Two4 (b o c q : Nat) (r p : En) (w0 w' : World) : Prop :=
  ((w'.cell? ⟨b, o, none⟩ = some (.string p.s) ∧ w'.cell? ⟨b, o + 1, none⟩ = some (.int .i64 p.n)) ∧
   (w'.cell? ⟨c, q, none⟩ = some (.string r.s) ∧ w'.cell? ⟨c, q + 1, none⟩ = some (.int .i64 r.n))) ∧ Below w0.heap.size w0 w'
theorem Two4.step {b o c q : Nat} {r p : En} {w0 w w' : World} (hb : Below w.heap.size w w') (h : Two4 b o c q r p w0 w) : Two4 b o c q r p w0 w' := by
  obtain ⟨⟨⟨h0, h1⟩, h3, h4⟩, h6⟩ := h
  exact ⟨⟨⟨kl_cell hb h0, kl_cell hb h1⟩, kl_cell hb h3, kl_cell hb h4⟩, h6.trans (hb.mono h6.size)⟩

set_option maxHeartbeats 4000000 in
theorem SameE_any (w : World) (a b : Value) (xs ys : List En) (ha : ERow w a xs) (hb : ERow w b ys) :
    Calls Try.prog 43 #[a, b, .func (.func 44) #[] #[]] w (SaysB (decide (xs = ys)) w) := by
  have hla := ha.lenRun
  have hlb := hb.lenRun
  have hxm := ha.len
  unfold maxLen at hxm
  have HA := hide ha
  have HB := hide hb
  clear ha hb
  by_cases hn : xs.length = ys.length
  · obtain ⟨len, hL⟩ : ∃ n, xs.length = n := ⟨_, rfl⟩
    have HX := hide hL
    have HY := hide (hn.symm.trans hL)
    simp only [← hn] at hlb
    rw [hL] at hxm
    simp only [hL] at hla hlb
    clear hL hn
    go_enter Try.func43, Try.ntmps43
    go_wp2
    go_loopw [7] (fun i wr => ∃ k : Nat, k ≤ len ∧ i = .int .i64 k ∧ xs.take k = ys.take k ∧ Below w.heap.size w wr) (fun i _ => len - (intOf i).toNat)
    case atStart => exact ⟨0, Nat.zero_le _, rfl, by simp, Below.refl _ _⟩
    case round =>
      obtain ⟨k, hk, rfl, htk, hbk⟩ := hrel
      have HT := hide htk
      clear htk
      by_cases hlt : k < len
      · have hlt' : (k : Int) < len := by omega
        have hkx : k < xs.length := by rw [HX.out]; exact hlt
        have hky : k < ys.length := by rw [HY.out]; exact hlt
        obtain ⟨ba, oa, hsa, hia, a0, a1⟩ := (HA.out.below hbk).idx k hkx
        obtain ⟨bb, ob, hsb, hib, b0, b1⟩ := (HB.out.below hbk).idx k hky
        have hmt := take_same hkx hky HT.out
        have hmf : xs.getD k default ≠ ys.getD k default → decide (xs = ys) = false := fun h => decide_eq_false (fun e => h (by rw [e]))
        generalize xs.getD k default = x at *
        generalize ys.getD k default = y at *
        obtain ⟨f, a⟩ := x
        obtain ⟨f', a'⟩ := y
        simp only at a0 a1 b0 b1
        have hon := fun w => oneE_any w f a f' a'
        have HS : Hid (Two4 ba oa bb ob ⟨f', a'⟩ ⟨f, a⟩ wr wr) := hide ⟨⟨⟨a0, a1⟩, b0, b1⟩, Below.refl _ _⟩
        have HMT := hide hmt
        have HMF := hide hmf
        have HBK := hide hbk
        clear hmt hmf a0 a1 b0 b1 hbk
        generalize hd : decide ((⟨f, a⟩ : En) = ⟨f', a'⟩) = d at *
        have HD := hide hd
        clear hd
        go_wp2_with fail
        go_region_held3 (fun w' => ((w'.cell? ⟨ba, oa, none⟩ = some (.string f) ∧ w'.cell? ⟨ba, oa + 1, none⟩ = some (.int .i64 a)) ∧
   (w'.cell? ⟨bb, ob, none⟩ = some (.string f') ∧ w'.cell? ⟨bb, ob + 1, none⟩ = some (.int .i64 a'))) ∧ Below wr.heap.size wr w')
          (first
            | assumption
            | exact Two4.step (kl_drew _) HS.out
            | exact Two4.step hb9 (show Two4 ba oa bb ob ⟨f', a'⟩ ⟨f, a⟩ wr _ by assumption)
            | fail)
          (first
            | (go_at_call 44; refine (hon _).mono ?_; rintro x w9 ⟨rfl, hb9⟩)
            | fail)
        have hX : Two4 ba oa bb ob ⟨f', a'⟩ ⟨f, a⟩ wr w9 := by assumption
        have hB9 : Below w.heap.size w w9 := HBK.out.trans (hX.2.mono HBK.out.size)
        clear hX hb9
        cases d with
        | true =>
          have HN := hide (HMT.out (of_decide_eq_true HD.out))
          go_wp2
          exact ⟨⟨k + 1, by omega, by go_num, HN.out, hB9⟩, by simp [intOf]; omega⟩
        | false =>
          have HN := hide (HMF.out (of_decide_eq_false HD.out))
          go_wp2
          go_ret
          exact ⟨ret_one (congrArg Value.bool HN.out.symm), hB9⟩
      · obtain rfl : k = len := by omega
        have HD := hide (show decide (xs = ys) = true from decide_eq_true (by
          have := HT.out
          rwa [List.take_of_length_le (by rw [HX.out]; exact Nat.le_refl _), List.take_of_length_le (by rw [HY.out]; exact Nat.le_refl _)] at this))
        go_wp2
        go_ret
        exact ⟨ret_one (congrArg Value.bool HD.out.symm), hbk⟩
  · have hne : ((xs.length : Int) != (ys.length : Int)) = true := by simp; omega
    rw [show decide (xs = ys) = false from decide_eq_false (fun e => hn (by rw [e]))]
    generalize xs.length = n at *
    generalize ys.length = m at *
    clear hn
    go_enter Try.func43, Try.ntmps43
    go_wp2
    go_ret
    exact ⟨rfl, Below.refl _ _⟩

theorem PlainE_any (w : World) (a b : Value) (xs ys : List En) (ha : ERow w a xs) (hb : ERow w b ys) :
    Calls Try.prog 30 #[a, b] w (SaysB (decide (xs = ys)) w) := by
  have hs := SameE_any w a b xs ys ha hb
  generalize decide (xs = ys) = d at *
  clear ha hb
  go_enter Try.func30, Try.ntmps30
  go_wp2_with fail
  refine hs.mono ?_
  rintro e w1 ⟨rfl, hb1⟩
  go_wp2
  go_ret
  exact ⟨rfl, hb1⟩
end Go.Proofs.Ytgkmgpjhpplkiaa

/-
  Inodes: garrethelp's Inode.
-/
namespace Go.Proofs.Ytgkmgpjhpplkiaa
open Go.RowKit
set_option linter.unusedVariables false
set_option maxRecDepth 100000

def sameI (x y : Ino) : Bool := x.no == y.no && (x.kind == y.kind && (x.links == y.links && (x.size == y.size && (decide (bl x.t = bl y.t) && (decide (x.es = y.es) && decide (x.rs = y.rs))))))
theorem sameI_refl (x : Ino) : sameI x x = true := by simp [sameI]
/-- Both lie there. -/
def TwoI (w0 : World) (A B : Nat) (xs ys : Array Value) (w : World) : Prop := Blk w A xs 36 ∧ Blk w B ys 36 ∧ Below w0.heap.size w0 w
theorem TwoI.step {w0 w w' : World} {A B : Nat} {xs ys : Array Value} (h : TwoI w0 A B xs ys w) (hb : Below w.heap.size w w') : TwoI w0 A B xs ys w' := ⟨kl_blk hb h.1, kl_blk hb h.2.1, kl_step hb h.2.2⟩

set_option maxHeartbeats 8000000 in
theorem SameI_any (w : World) (no kind links size : Int) (t : ByteArray) (ev rv : Value) (es : List En) (rs : List Rn) (no' kind' links' size' : Int) (t' : ByteArray) (ev' rv' : Value) (es' : List En) (rs' : List Rn)
    (he : ERow w ev es) (hr : RRow w rv rs) (he' : ERow w ev' es') (hr' : RRow w rv' rs') :
    Calls Try.prog 20 #[.agg #[.int .i64 no, .int .i64 kind, .int .i64 links, .int .i64 size, .string t, ev, rv], .agg #[.int .i64 no', .int .i64 kind', .int .i64 links', .int .i64 size', .string t', ev', rv']] w
      (SaysB (sameI ⟨no, kind, links, size, t, es, rs⟩ ⟨no', kind', links', size', t', es', rs'⟩) w) := by
  obtain ⟨w0, hw0⟩ : ∃ W, W = w.alloc (.cells #[.int .i64 no, .int .i64 kind, .int .i64 links, .int .i64 size, .string t, ev, rv] 36) := ⟨_, rfl⟩
  have hb0 : Below w.heap.size w w0 := by rw [hw0]; exact kl_alloc w _
  have hB0 : Blk w0 w.heap.size #[.int .i64 no, .int .i64 kind, .int .i64 links, .int .i64 size, .string t, ev, rv] 36 := by rw [hw0]; exact Blk.new w _ _
  have hsz : w0.heap.size = w.heap.size + 1 := by rw [hw0]; simp
  obtain ⟨V, hV⟩ : ∃ W, W = w0.alloc (.cells #[.int .i64 no', .int .i64 kind', .int .i64 links', .int .i64 size', .string t', ev', rv'] 36) := ⟨_, rfl⟩
  have hb1 : Below w0.heap.size w0 V := by rw [hV]; exact kl_alloc w0 _
  have hB1 : Blk V (w.heap.size + 1) #[.int .i64 no', .int .i64 kind', .int .i64 links', .int .i64 size', .string t', ev', rv'] 36 := by rw [hV, ← hsz]; exact Blk.new w0 _ _
  have HT := hide (show TwoI w w.heap.size (w.heap.size + 1) _ _ V from ⟨kl_blk hb1 hB0, hB1, kl_step hb1 hb0⟩)
  have Hw0 := hide hw0
  have HV := hide hV
  have HE := hide he
  have HR := hide hr
  have HE' := hide he'
  have HR' := hide hr'
  clear hb0 hB0 hsz hb1 hB1 hw0 hV he hr he' hr'
  go_enter Try.func20, Try.ntmps20
  go_upto_region 1 with fail
  rw [← Hw0.out, ← HV.out]
  clear Hw0 HV
  have HI : Hid (sameI ⟨no, kind, links, size, t, es, rs⟩ ⟨no', kind', links', size', t', es', rs'⟩ = (no == no' && (kind == kind' && (links == links' && (size == size' && (decide (bl t = bl t') && (decide (es = es') && decide (rs = rs')))))))) := hide rfl
  generalize hA : w.heap.size = A at *
  have HA := hide hA
  clear hA
  obtain ⟨B, hB⟩ : ∃ B, B = A + 1 := ⟨_, rfl⟩
  rw [← hB] at HT ⊢
  clear hB
  have a0 : V.cell? ⟨A, 0, none⟩ = some (.int .i64 no) := HT.out.1.cell 0
  have b0 : V.cell? ⟨B, 0, none⟩ = some (.int .i64 no') := HT.out.2.1.cell 0
  have a1 : V.cell? ⟨A, 1, none⟩ = some (.int .i64 kind) := HT.out.1.cell 1
  have b1 : V.cell? ⟨B, 1, none⟩ = some (.int .i64 kind') := HT.out.2.1.cell 1
  have a2 : V.cell? ⟨A, 2, none⟩ = some (.int .i64 links) := HT.out.1.cell 2
  have b2 : V.cell? ⟨B, 2, none⟩ = some (.int .i64 links') := HT.out.2.1.cell 2
  have a3 : V.cell? ⟨A, 3, none⟩ = some (.int .i64 size) := HT.out.1.cell 3
  have b3 : V.cell? ⟨B, 3, none⟩ = some (.int .i64 size') := HT.out.2.1.cell 3
  have a4 : V.cell? ⟨A, 4, none⟩ = some (.string t) := HT.out.1.cell 4
  have b4 : V.cell? ⟨B, 4, none⟩ = some (.string t') := HT.out.2.1.cell 4
  have a5 : V.cell? ⟨A, 5, none⟩ = some ev := HT.out.1.cell 5
  have b5 : V.cell? ⟨B, 5, none⟩ = some ev' := HT.out.2.1.cell 5
  by_cases qno : no = no'
  case neg =>
    have eno : (no == no') = false := by simpa using qno
    have HF := hide (HI.out.trans (by rw [eno]))
    clear qno
    go_wp2
    go_ret
    exact ⟨ret_one (congrArg Value.bool HF.out.symm), HT.out.2.2⟩
  have eno : (no == no') = true := by simpa using qno
  clear qno
  by_cases qkind : kind = kind'
  case neg =>
    have ekind : (kind == kind') = false := by simpa using qkind
    have HF := hide (HI.out.trans (by rw [eno, ekind]))
    clear qkind
    go_wp2
    go_ret
    exact ⟨ret_one (congrArg Value.bool HF.out.symm), HT.out.2.2⟩
  have ekind : (kind == kind') = true := by simpa using qkind
  clear qkind
  by_cases qlinks : links = links'
  case neg =>
    have elinks : (links == links') = false := by simpa using qlinks
    have HF := hide (HI.out.trans (by rw [eno, ekind, elinks]))
    clear qlinks
    go_wp2
    go_ret
    exact ⟨ret_one (congrArg Value.bool HF.out.symm), HT.out.2.2⟩
  have elinks : (links == links') = true := by simpa using qlinks
  clear qlinks
  by_cases qsize : size = size'
  case neg =>
    have esize : (size == size') = false := by simpa using qsize
    have HF := hide (HI.out.trans (by rw [eno, ekind, elinks, esize]))
    clear qsize
    go_wp2
    go_ret
    exact ⟨ret_one (congrArg Value.bool HF.out.symm), HT.out.2.2⟩
  have esize : (size == size') = true := by simpa using qsize
  clear qsize
  have hsb := same_bl t t'
  by_cases qt : bl t = bl t'
  case neg =>
    rw [decide_eq_false qt] at hsb
    have HF := hide (HI.out.trans (by rw [eno, ekind, elinks, esize, decide_eq_false qt]))
    clear qt
    go_wp2
    go_ret
    exact ⟨ret_one (congrArg Value.bool HF.out.symm), HT.out.2.2⟩
  rw [decide_eq_true qt] at hsb
  have HI2 := hide (HI.out.trans (by rw [eno, ekind, elinks, esize, decide_eq_true qt, Bool.true_and, Bool.true_and, Bool.true_and, Bool.true_and, Bool.true_and]))
  clear qt HI
  go_wp2_with fail
  refine (PlainE_any V ev ev' es es' (HE.out.below HT.out.2.2) (HE'.out.below HT.out.2.2)).mono ?_
  rintro e w5 ⟨rfl, hb5⟩
  have HT5 := hide (HT.out.step hb5)
  clear a0 b0 a1 b1 a2 b2 a3 b3 a4 b4 a5 b5 hb5 HT
  generalize decide (es = es') = p at *
  have a6 : w5.cell? ⟨A, 6, none⟩ = some rv := HT5.out.1.cell 6
  have b6 : w5.cell? ⟨B, 6, none⟩ = some rv' := HT5.out.2.1.cell 6
  cases p with
  | false =>
    go_wp2
    go_ret
    exact ⟨ret_one (congrArg Value.bool HI2.out.symm), HT5.out.2.2⟩
  | true =>
    go_wp2_with fail
    refine (PlainR_any w5 rv rv' rs rs' (HR.out.below HT5.out.2.2) (HR'.out.below HT5.out.2.2)).mono ?_
    rintro e w6 ⟨rfl, hb6⟩
    have HT6 := hide (HT5.out.step hb6)
    clear a6 b6 hb6 HT5
    go_wp2
    go_ret
    exact ⟨ret_one (congrArg Value.bool HI2.out.symm), HT6.out.2.2⟩
end Go.Proofs.Ytgkmgpjhpplkiaa

/-
  Deeds held against each other: garrethelp's Deed, and Same over deeds.
-/
namespace Go.Proofs.Ytgkmgpjhpplkiaa
open Go.RowKit
set_option linter.unusedVariables false
set_option maxRecDepth 100000

def sameD (a b : Dd) : Bool := a.kind == b.kind && (a.no == b.no && sameI a.x b.x)
theorem sameD_refl (a : Dd) : sameD a a = true := by simp [sameD, sameI_refl]
/-- Two rows of deeds are the same. -/
def sameL (xs ys : List Dd) : Bool := decide (xs.length = ys.length ∧ ∀ i, i < xs.length → sameD (xs.getD i default) (ys.getD i default) = true)
theorem sameL_refl (xs : List Dd) : sameL xs xs = true := by simp [sameL, sameD_refl]
/-- Both lie there. -/
def TwoD (w0 : World) (A B : Nat) (xs ys : Array Value) (w : World) : Prop := Blk w A xs 38 ∧ Blk w B ys 38 ∧ Below w0.heap.size w0 w

set_option maxHeartbeats 8000000 in
theorem SameD_any (w : World) (k1 n1 a1 b1 c1 e1 : Int) (t1 : ByteArray) (ev1 rv1 : Value) (es1 : List En) (rs1 : List Rn) (k2 n2 a2 b2 c2 e2 : Int) (t2 : ByteArray) (ev2 rv2 : Value) (es2 : List En) (rs2 : List Rn)
    (he : ERow w ev1 es1) (hr : RRow w rv1 rs1) (he' : ERow w ev2 es2) (hr' : RRow w rv2 rs2) :
    Calls Try.prog 17 #[.agg #[.int .i64 k1, .int .i64 n1, .int .i64 a1, .int .i64 b1, .int .i64 c1, .int .i64 e1, .string t1, ev1, rv1], .agg #[.int .i64 k2, .int .i64 n2, .int .i64 a2, .int .i64 b2, .int .i64 c2, .int .i64 e2, .string t2, ev2, rv2]] w
      (SaysB (sameD ⟨k1, n1, ⟨a1, b1, c1, e1, t1, es1, rs1⟩⟩ ⟨k2, n2, ⟨a2, b2, c2, e2, t2, es2, rs2⟩⟩) w) := by
  obtain ⟨w0, hw0⟩ : ∃ W, W = w.alloc (.cells #[.int .i64 k1, .int .i64 n1, .int .i64 a1, .int .i64 b1, .int .i64 c1, .int .i64 e1, .string t1, ev1, rv1] 38) := ⟨_, rfl⟩
  have hb0 : Below w.heap.size w w0 := by rw [hw0]; exact kl_alloc w _
  have hB0 : Blk w0 w.heap.size #[.int .i64 k1, .int .i64 n1, .int .i64 a1, .int .i64 b1, .int .i64 c1, .int .i64 e1, .string t1, ev1, rv1] 38 := by rw [hw0]; exact Blk.new w _ _
  have hsz : w0.heap.size = w.heap.size + 1 := by rw [hw0]; simp
  obtain ⟨V, hV⟩ : ∃ W, W = w0.alloc (.cells #[.int .i64 k2, .int .i64 n2, .int .i64 a2, .int .i64 b2, .int .i64 c2, .int .i64 e2, .string t2, ev2, rv2] 38) := ⟨_, rfl⟩
  have hb1 : Below w0.heap.size w0 V := by rw [hV]; exact kl_alloc w0 _
  have hB1 : Blk V (w.heap.size + 1) #[.int .i64 k2, .int .i64 n2, .int .i64 a2, .int .i64 b2, .int .i64 c2, .int .i64 e2, .string t2, ev2, rv2] 38 := by rw [hV, ← hsz]; exact Blk.new w0 _ _
  have HT := hide (show TwoD w w.heap.size (w.heap.size + 1) _ _ V from ⟨kl_blk hb1 hB0, hB1, kl_step hb1 hb0⟩)
  have Hw0 := hide hw0
  have HV := hide hV
  have HE := hide he
  have HR := hide hr
  have HE' := hide he'
  have HR' := hide hr'
  clear hb0 hB0 hsz hb1 hB1 hw0 hV he hr he' hr'
  go_enter Try.func17, Try.ntmps17
  go_upto_region 1 with fail
  rw [← Hw0.out, ← HV.out]
  clear Hw0 HV
  have HI : Hid (sameD ⟨k1, n1, ⟨a1, b1, c1, e1, t1, es1, rs1⟩⟩ ⟨k2, n2, ⟨a2, b2, c2, e2, t2, es2, rs2⟩⟩ = (k1 == k2 && (n1 == n2 && sameI ⟨a1, b1, c1, e1, t1, es1, rs1⟩ ⟨a2, b2, c2, e2, t2, es2, rs2⟩))) := hide rfl
  generalize hA : w.heap.size = A at *
  have HA := hide hA
  clear hA
  obtain ⟨B, hB⟩ : ∃ B, B = A + 1 := ⟨_, rfl⟩
  rw [← hB] at HT ⊢
  clear hB
  have p0 : V.cell? ⟨A, 0, none⟩ = some (.int .i64 k1) := HT.out.1.cell 0
  have q0 : V.cell? ⟨B, 0, none⟩ = some (.int .i64 k2) := HT.out.2.1.cell 0
  have p1 : V.cell? ⟨A, 1, none⟩ = some (.int .i64 n1) := HT.out.1.cell 1
  have q1 : V.cell? ⟨B, 1, none⟩ = some (.int .i64 n2) := HT.out.2.1.cell 1
  have p2 : V.cell? ⟨A, 2, none⟩ = some (.int .i64 a1) := HT.out.1.cell 2
  have q2 : V.cell? ⟨B, 2, none⟩ = some (.int .i64 a2) := HT.out.2.1.cell 2
  have p3 : V.cell? ⟨A, 3, none⟩ = some (.int .i64 b1) := HT.out.1.cell 3
  have q3 : V.cell? ⟨B, 3, none⟩ = some (.int .i64 b2) := HT.out.2.1.cell 3
  have p4 : V.cell? ⟨A, 4, none⟩ = some (.int .i64 c1) := HT.out.1.cell 4
  have q4 : V.cell? ⟨B, 4, none⟩ = some (.int .i64 c2) := HT.out.2.1.cell 4
  have p5 : V.cell? ⟨A, 5, none⟩ = some (.int .i64 e1) := HT.out.1.cell 5
  have q5 : V.cell? ⟨B, 5, none⟩ = some (.int .i64 e2) := HT.out.2.1.cell 5
  have p6 : V.cell? ⟨A, 6, none⟩ = some (.string t1) := HT.out.1.cell 6
  have q6 : V.cell? ⟨B, 6, none⟩ = some (.string t2) := HT.out.2.1.cell 6
  have p7 : V.cell? ⟨A, 7, none⟩ = some (ev1) := HT.out.1.cell 7
  have q7 : V.cell? ⟨B, 7, none⟩ = some (ev2) := HT.out.2.1.cell 7
  have p8 : V.cell? ⟨A, 8, none⟩ = some (rv1) := HT.out.1.cell 8
  have q8 : V.cell? ⟨B, 8, none⟩ = some (rv2) := HT.out.2.1.cell 8
  by_cases qk : k1 = k2
  case neg =>
    have ek : (k1 == k2) = false := by simpa using qk
    have HF := hide (HI.out.trans (by rw [ek, Bool.false_and]))
    clear qk
    go_wp2
    go_ret
    exact ⟨ret_one (congrArg Value.bool HF.out.symm), HT.out.2.2⟩
  have ek : (k1 == k2) = true := by simpa using qk
  clear qk
  by_cases qn : n1 = n2
  case neg =>
    have en : (n1 == n2) = false := by simpa using qn
    have HF := hide (HI.out.trans (by rw [ek, en, Bool.false_and, Bool.true_and]))
    clear qn
    go_wp2
    go_ret
    exact ⟨ret_one (congrArg Value.bool HF.out.symm), HT.out.2.2⟩
  have en : (n1 == n2) = true := by simpa using qn
  have HI2 := hide (HI.out.trans (by rw [ek, en, Bool.true_and, Bool.true_and]))
  clear qn HI
  have HC := hide (SameI_any V a1 b1 c1 e1 t1 ev1 rv1 es1 rs1 a2 b2 c2 e2 t2 ev2 rv2 es2 rs2 (HE.out.below HT.out.2.2) (HR.out.below HT.out.2.2) (HE'.out.below HT.out.2.2) (HR'.out.below HT.out.2.2))
  generalize sameI ⟨a1, b1, c1, e1, t1, es1, rs1⟩ ⟨a2, b2, c2, e2, t2, es2, rs2⟩ = d at *
  go_wp2_with fail
  refine HC.out.mono ?_
  rintro e w5 ⟨rfl, hb5⟩
  have hB5 := kl_step hb5 HT.out.2.2
  clear hb5 HT HC p0 p1 p2 p3 p4 p5 p6 p7 p8 q0 q1 q2 q3 q4 q5 q6 q7 q8
  go_wp2
  go_ret
  exact ⟨ret_one (congrArg Value.bool HI2.out.symm), hB5⟩

/-- Two deeds that are read. -/
def Two9 (ba oa bb ob : Nat) (x y : Dv) (w0 w' : World) : Prop :=
  ((w'.cell? ⟨ba, oa, none⟩ = some (.int .i64 x.d.kind) ∧ w'.cell? ⟨ba, oa + 1, none⟩ = some (.int .i64 x.d.no) ∧ w'.cell? ⟨ba, oa + 2, none⟩ = some (.int .i64 x.d.x.no) ∧ w'.cell? ⟨ba, oa + 3, none⟩ = some (.int .i64 x.d.x.kind) ∧ w'.cell? ⟨ba, oa + 4, none⟩ = some (.int .i64 x.d.x.links) ∧ w'.cell? ⟨ba, oa + 5, none⟩ = some (.int .i64 x.d.x.size) ∧ w'.cell? ⟨ba, oa + 6, none⟩ = some (.string x.d.x.t) ∧ w'.cell? ⟨ba, oa + 7, none⟩ = some (x.ev) ∧ w'.cell? ⟨ba, oa + 8, none⟩ = some (x.rv)) ∧
   (w'.cell? ⟨bb, ob, none⟩ = some (.int .i64 y.d.kind) ∧ w'.cell? ⟨bb, ob + 1, none⟩ = some (.int .i64 y.d.no) ∧ w'.cell? ⟨bb, ob + 2, none⟩ = some (.int .i64 y.d.x.no) ∧ w'.cell? ⟨bb, ob + 3, none⟩ = some (.int .i64 y.d.x.kind) ∧ w'.cell? ⟨bb, ob + 4, none⟩ = some (.int .i64 y.d.x.links) ∧ w'.cell? ⟨bb, ob + 5, none⟩ = some (.int .i64 y.d.x.size) ∧ w'.cell? ⟨bb, ob + 6, none⟩ = some (.string y.d.x.t) ∧ w'.cell? ⟨bb, ob + 7, none⟩ = some (y.ev) ∧ w'.cell? ⟨bb, ob + 8, none⟩ = some (y.rv))) ∧ Below w0.heap.size w0 w'
theorem Two9.step {ba oa bb ob : Nat} {x y : Dv} {w0 w w' : World} (hb : Below w.heap.size w w') (h : Two9 ba oa bb ob x y w0 w) : Two9 ba oa bb ob x y w0 w' := by
  obtain ⟨⟨⟨h0, h1, h2, h3, h4, h5, h6, h7, h8⟩, g0, g1, g2, g3, g4, g5, g6, g7, g8⟩, h⟩ := h
  exact ⟨⟨⟨kl_cell hb h0, kl_cell hb h1, kl_cell hb h2, kl_cell hb h3, kl_cell hb h4, kl_cell hb h5, kl_cell hb h6, kl_cell hb h7, kl_cell hb h8⟩, kl_cell hb g0, kl_cell hb g1, kl_cell hb g2, kl_cell hb g3, kl_cell hb g4, kl_cell hb g5, kl_cell hb g6, kl_cell hb g7, kl_cell hb g8⟩, h.trans (hb.mono h.size)⟩

/-- Two deeds at one place. -/
theorem sameL_no {xs ys : List Dv} {k : Nat} (hk : k < xs.length) (h : sameD (xs.getD k default).d (ys.getD k default).d = false) : sameL (xs.map Dv.d) (ys.map Dv.d) = false := by
  refine decide_eq_false ?_
  rintro ⟨hl, h2⟩
  simp only [List.length_map] at hl h2
  have hx := h2 k hk
  rw [show (xs.map Dv.d).getD k default = (xs.getD k default).d from by simp [List.getD, List.getElem?_eq_getElem hk], show (ys.map Dv.d).getD k default = (ys.getD k default).d from by simp [List.getD, List.getElem?_eq_getElem (show k < ys.length by omega)], h] at hx
  cases hx
theorem sameL_yes {xs ys : List Dv} (hl : xs.length = ys.length) (h : ∀ k, k < xs.length → sameD (xs.getD k default).d (ys.getD k default).d = true) : sameL (xs.map Dv.d) (ys.map Dv.d) = true := by
  refine decide_eq_true ⟨by simpa using hl, ?_⟩
  intro k hk
  rw [List.length_map] at hk
  rw [show (xs.map Dv.d).getD k default = (xs.getD k default).d from by simp [List.getD, List.getElem?_eq_getElem hk], show (ys.map Dv.d).getD k default = (ys.getD k default).d from by simp [List.getD, List.getElem?_eq_getElem (show k < ys.length by omega)]]
  exact h k hk

set_option maxHeartbeats 8000000 in
theorem SameDs_any (w : World) (a b : Value) (xs ys : List Dv) (ha : DRow w a xs) (hb : DRow w b ys) :
    Calls Try.prog 16 #[a, b, .func (.func 17) #[] #[]] w (SaysB (sameL (xs.map Dv.d) (ys.map Dv.d)) w) := by
  have hla := ha.lenRun
  have hlb := hb.lenRun
  have hxm := ha.len
  unfold maxLen at hxm
  have HA := hide ha
  have HB := hide hb
  clear ha hb
  by_cases hn : xs.length = ys.length
  · obtain ⟨len, hL⟩ : ∃ n, xs.length = n := ⟨_, rfl⟩
    have HX := hide hL
    have HY := hide (hn.symm.trans hL)
    simp only [← hn] at hlb
    rw [hL] at hxm
    simp only [hL] at hla hlb
    clear hL hn
    go_enter Try.func16, Try.ntmps16
    go_wp2
    go_loopw [7] (fun i wr => ∃ k : Nat, k ≤ len ∧ i = .int .i64 k ∧ (∀ j, j < k → sameD (xs.getD j default).d (ys.getD j default).d = true) ∧ Below w.heap.size w wr) (fun i _ => len - (intOf i).toNat)
    case atStart => exact ⟨0, Nat.zero_le _, rfl, by intro j hj; omega, Below.refl _ _⟩
    case round =>
      obtain ⟨k, hk, rfl, htk, hbk⟩ := hrel
      have HT := hide htk
      clear htk
      by_cases hlt : k < len
      · have hlt' : (k : Int) < len := by omega
        have hkx : k < xs.length := by rw [HX.out]; exact hlt
        have hky : k < ys.length := by rw [HY.out]; exact hlt
        obtain ⟨ba, oa, hsa, hia, pa⟩ := (HA.out.below hbk).idx k hkx
        obtain ⟨bb, ob, hsb, hib, pb⟩ := (HB.out.below hbk).idx k hky
        have hmf := fun h => sameL_no (ys := ys) hkx h
        have hmt : sameD (xs.getD k default).d (ys.getD k default).d = true → ∀ j, j < k + 1 → sameD (xs.getD j default).d (ys.getD j default).d = true := fun h j hj => by
          rcases Nat.lt_succ_iff_lt_or_eq.1 hj with hj | rfl
          · exact HT.out j hj
          · exact h
        have hra := (HA.out.below hbk).2 (xs.getD k default) (by rw [List.getD, List.getElem?_eq_getElem hkx]; exact List.getElem_mem hkx)
        have hrb := (HB.out.below hbk).2 (ys.getD k default) (by rw [List.getD, List.getElem?_eq_getElem hky]; exact List.getElem_mem hky)
        generalize xs.getD k default = x at *
        generalize ys.getD k default = y at *
        obtain ⟨⟨k1, n1, ⟨a1, b1, c1, e1, t1, es1, rs1⟩⟩, ev1, rv1⟩ := x
        obtain ⟨⟨k2, n2, ⟨a2, b2, c2, e2, t2, es2, rs2⟩⟩, ev2, rv2⟩ := y
        obtain ⟨hea, hra⟩ := hra
        obtain ⟨heb, hrb⟩ := hrb
        simp only at hea hra heb hrb hmt hmf
        have hon := hide (fun w' (hb : Below wr.heap.size wr w') => SameD_any w' k1 n1 a1 b1 c1 e1 t1 ev1 rv1 es1 rs1 k2 n2 a2 b2 c2 e2 t2 ev2 rv2 es2 rs2 (hea.below hb) (hra.below hb) (heb.below hb) (hrb.below hb))
        have HS : Hid (Two9 ba oa bb ob ⟨⟨k1, n1, ⟨a1, b1, c1, e1, t1, es1, rs1⟩⟩, ev1, rv1⟩ ⟨⟨k2, n2, ⟨a2, b2, c2, e2, t2, es2, rs2⟩⟩, ev2, rv2⟩ wr wr) := hide ⟨⟨⟨pa 0 _ rfl, pa 1 _ rfl, pa 2 _ rfl, pa 3 _ rfl, pa 4 _ rfl, pa 5 _ rfl, pa 6 _ rfl, pa 7 _ rfl, pa 8 _ rfl⟩, pb 0 _ rfl, pb 1 _ rfl, pb 2 _ rfl, pb 3 _ rfl, pb 4 _ rfl, pb 5 _ rfl, pb 6 _ rfl, pb 7 _ rfl, pb 8 _ rfl⟩, Below.refl _ _⟩
        have HMT := hide hmt
        have HMF := hide hmf
        have HBK := hide hbk
        clear hmt hmf hbk hea hra heb hrb
        have p0 : wr.cell? ⟨ba, oa, none⟩ = some (.int .i64 k1) := pa 0 _ rfl
        have p1 : wr.cell? ⟨ba, oa + 1, none⟩ = some (.int .i64 n1) := pa 1 _ rfl
        have p2 : wr.cell? ⟨ba, oa + 2, none⟩ = some (.int .i64 a1) := pa 2 _ rfl
        have p3 : wr.cell? ⟨ba, oa + 3, none⟩ = some (.int .i64 b1) := pa 3 _ rfl
        have p4 : wr.cell? ⟨ba, oa + 4, none⟩ = some (.int .i64 c1) := pa 4 _ rfl
        have p5 : wr.cell? ⟨ba, oa + 5, none⟩ = some (.int .i64 e1) := pa 5 _ rfl
        have p6 : wr.cell? ⟨ba, oa + 6, none⟩ = some (.string t1) := pa 6 _ rfl
        have p7 : wr.cell? ⟨ba, oa + 7, none⟩ = some (ev1) := pa 7 _ rfl
        have p8 : wr.cell? ⟨ba, oa + 8, none⟩ = some (rv1) := pa 8 _ rfl
        have q0 : wr.cell? ⟨bb, ob, none⟩ = some (.int .i64 k2) := pb 0 _ rfl
        have q1 : wr.cell? ⟨bb, ob + 1, none⟩ = some (.int .i64 n2) := pb 1 _ rfl
        have q2 : wr.cell? ⟨bb, ob + 2, none⟩ = some (.int .i64 a2) := pb 2 _ rfl
        have q3 : wr.cell? ⟨bb, ob + 3, none⟩ = some (.int .i64 b2) := pb 3 _ rfl
        have q4 : wr.cell? ⟨bb, ob + 4, none⟩ = some (.int .i64 c2) := pb 4 _ rfl
        have q5 : wr.cell? ⟨bb, ob + 5, none⟩ = some (.int .i64 e2) := pb 5 _ rfl
        have q6 : wr.cell? ⟨bb, ob + 6, none⟩ = some (.string t2) := pb 6 _ rfl
        have q7 : wr.cell? ⟨bb, ob + 7, none⟩ = some (ev2) := pb 7 _ rfl
        have q8 : wr.cell? ⟨bb, ob + 8, none⟩ = some (rv2) := pb 8 _ rfl
        clear pa pb
        clear p0 q0 p1 q1 p2 q2 p3 q3 p4 q4 p5 q5 p6 q6 p7 q7 p8 q8
        generalize hd : sameD ⟨k1, n1, ⟨a1, b1, c1, e1, t1, es1, rs1⟩⟩ ⟨k2, n2, ⟨a2, b2, c2, e2, t2, es2, rs2⟩⟩ = d at *
        have HD := hide hd
        clear hd
        go_wp2_with fail
        go_region_held3 (fun w' => ((w'.cell? ⟨ba, oa, none⟩ = some (.int .i64 k1) ∧ w'.cell? ⟨ba, oa + 1, none⟩ = some (.int .i64 n1) ∧ w'.cell? ⟨ba, oa + 2, none⟩ = some (.int .i64 a1) ∧ w'.cell? ⟨ba, oa + 3, none⟩ = some (.int .i64 b1) ∧ w'.cell? ⟨ba, oa + 4, none⟩ = some (.int .i64 c1) ∧ w'.cell? ⟨ba, oa + 5, none⟩ = some (.int .i64 e1) ∧ w'.cell? ⟨ba, oa + 6, none⟩ = some (.string t1) ∧ w'.cell? ⟨ba, oa + 7, none⟩ = some (ev1) ∧ w'.cell? ⟨ba, oa + 8, none⟩ = some (rv1)) ∧
   (w'.cell? ⟨bb, ob, none⟩ = some (.int .i64 k2) ∧ w'.cell? ⟨bb, ob + 1, none⟩ = some (.int .i64 n2) ∧ w'.cell? ⟨bb, ob + 2, none⟩ = some (.int .i64 a2) ∧ w'.cell? ⟨bb, ob + 3, none⟩ = some (.int .i64 b2) ∧ w'.cell? ⟨bb, ob + 4, none⟩ = some (.int .i64 c2) ∧ w'.cell? ⟨bb, ob + 5, none⟩ = some (.int .i64 e2) ∧ w'.cell? ⟨bb, ob + 6, none⟩ = some (.string t2) ∧ w'.cell? ⟨bb, ob + 7, none⟩ = some (ev2) ∧ w'.cell? ⟨bb, ob + 8, none⟩ = some (rv2))) ∧ Below wr.heap.size wr w')
          (first
            | assumption
            | exact Two9.step (kl_drew _) HS.out
            | exact Two9.step hb9 (show Two9 ba oa bb ob ⟨⟨k1, n1, ⟨a1, b1, c1, e1, t1, es1, rs1⟩⟩, ev1, rv1⟩ ⟨⟨k2, n2, ⟨a2, b2, c2, e2, t2, es2, rs2⟩⟩, ev2, rv2⟩ wr _ by assumption)
            | fail)
          (first
            | (go_at_call 17; refine (hon.out _ (by first | exact (show Two9 ba oa bb ob ⟨⟨k1, n1, ⟨a1, b1, c1, e1, t1, es1, rs1⟩⟩, ev1, rv1⟩ ⟨⟨k2, n2, ⟨a2, b2, c2, e2, t2, es2, rs2⟩⟩, ev2, rv2⟩ wr _ by assumption).2 | exact kl_drew _)).mono ?_; rintro x w9 ⟨rfl, hb9⟩)
            | fail)
        have hX : Two9 ba oa bb ob ⟨⟨k1, n1, ⟨a1, b1, c1, e1, t1, es1, rs1⟩⟩, ev1, rv1⟩ ⟨⟨k2, n2, ⟨a2, b2, c2, e2, t2, es2, rs2⟩⟩, ev2, rv2⟩ wr w9 := by assumption
        have hB9 : Below w.heap.size w w9 := HBK.out.trans (hX.2.mono HBK.out.size)
        clear hX hb9
        cases d with
        | true =>
          have HN := hide (HMT.out rfl)
          go_wp2
          exact ⟨⟨k + 1, by omega, by go_num, HN.out, hB9⟩, by simp [intOf]; omega⟩
        | false =>
          have HN := hide (HMF.out rfl)
          go_wp2
          go_ret
          exact ⟨ret_one (congrArg Value.bool HN.out.symm), hB9⟩
      · obtain rfl : k = len := by omega
        have HD := hide (sameL_yes (HX.out.trans HY.out.symm) (fun j hj => HT.out j (by rw [← HX.out]; exact hj)))
        go_wp2
        go_ret
        exact ⟨ret_one (congrArg Value.bool HD.out.symm), hbk⟩
  · have hne : ((xs.length : Int) != (ys.length : Int)) = true := by simp; omega
    rw [show sameL (xs.map Dv.d) (ys.map Dv.d) = false from decide_eq_false (fun e => hn (by simpa using e.1))]
    generalize xs.length = n at *
    generalize ys.length = m at *
    clear hn
    go_enter Try.func16, Try.ntmps16
    go_wp2
    go_ret
    exact ⟨rfl, Below.refl _ _⟩
end Go.Proofs.Ytgkmgpjhpplkiaa

/-
  The contracts of the helpers that copy and hold against each other: Own, Same, Plain, Kept, at bytes.
-/
namespace Go.Proofs.Ytgkmgpjhpplkiaa
open Go.RowKit
set_option linter.unusedVariables false

/-- All cells of an owned row up to its capacity, whatever they are. -/
theorem owns_full {w : World} {base : Nat} {e : TypeId} {g n cap : Nat} {xs : List Value} (h : w.ownsRow base e 1 (.slice (some ⟨g, 0, none⟩) n cap) n xs) :
    n ≤ cap ∧ ∃ ys, ys.length = cap - n ∧ w.ownsRow base e 1 (.slice (some ⟨g, 0, none⟩) cap cap) cap (xs ++ ys) := by
  rcases h.2 with ⟨h', _⟩ | ⟨g', cap', cur, h', hb, hg, hnc, hcm, hcs, htake⟩
  · simp at h'
  · simp only [Value.slice.injEq, Option.some.injEq, Addr.mk.injEq, and_true, true_and] at h'
    obtain ⟨rfl, rfl⟩ := h'
    rw [Nat.mul_one] at hcs htake
    refine ⟨hnc, cur.toList.drop n, by simp [hcs], ?_⟩
    have e1 : xs ++ cur.toList.drop n = cur.toList := by rw [← htake, List.take_append_drop]
    rw [e1]
    exact ⟨by simp [hcs], .inr ⟨g, cap, cur, rfl, hb, hg, Nat.le_refl _, hcm, by rw [Nat.mul_one, hcs], by rw [Nat.mul_one, List.take_of_length_le (by simp [hcs])]⟩⟩

/-- Its first n cells alone. -/
theorem owns_cut {w : World} {base : Nat} {e : TypeId} {g n cap : Nat} {xs : List Value} (h : w.ownsRow base e 1 (.slice (some ⟨g, 0, none⟩) cap cap) cap xs) (hn : n ≤ cap) :
    w.ownsRow base e 1 (.slice (some ⟨g, 0, none⟩) n cap) n (xs.take n) := by
  have hl : xs.length = cap := by simpa using h.1
  rcases h.2 with ⟨h', _⟩ | ⟨g', cap', cur, h', hb, hg, hnc, hcm, hcs, htake⟩
  · simp at h'
  · simp only [Value.slice.injEq, Option.some.injEq, Addr.mk.injEq, and_true, true_and] at h'
    obtain ⟨rfl, rfl⟩ := h'
    refine ⟨by simp [hl]; omega, .inr ⟨g, cap, cur, rfl, hb, hg, hn, hcm, hcs, ?_⟩⟩
    rw [← htake, List.take_take]
    congr 1
    omega

theorem set_fill (xs : List Int) (ys : List Value) (f : Int) (k : Nat) (hk : k < ys.length) : (bv xs ++ (List.replicate k (Value.int .u8 f) ++ ys.drop k)).set (xs.length + k) (.int .u8 f) = bv xs ++ (List.replicate (k + 1) (Value.int .u8 f) ++ ys.drop (k + 1)) := by
  rw [List.set_append_right _ _ (by rw [bv_length]; omega), bv_length, Nat.add_sub_cancel_left, List.set_append_right _ _ (by simp), List.length_replicate, Nat.sub_self, List.drop_eq_getElem_cons hk, List.set_cons_zero, List.replicate_succ']
  simp

set_option maxHeartbeats 1000000 in
/-- Own: a copy with three spare places behind it, which hold the filling. -/
theorem Own_any (w : World) (v : Value) (xs : List Int) (f : Int) (h : Row w v xs) (hn : xs.length ≤ 1000000) :
    Calls Try.prog 10 #[v, .int .u8 f] w fun e w' =>
      e = .returned (.slice (some ⟨w.heap.size, 0, none⟩) xs.length (xs.length + 3)) ∧ w'.ownsRow w.heap.size 5 1 (.slice (some ⟨w.heap.size, 0, none⟩) (xs.length + 3) (xs.length + 3)) (xs.length + 3) (bv xs ++ List.replicate 3 (.int .u8 f)) ∧ Below w.heap.size w w' := by
  obtain ⟨i0, hi, hz0, hz1, hz2⟩ := info_parts infoByte
  obtain ⟨ao, cap, rfl, h1, h2, h3, h4, h5⟩ := h
  have hL : (bv xs).length = xs.length * 1 := by simp [bv_length]
  have HF : Hid (∀ (ys : List Value) (k : Nat), k < ys.length → (bv xs ++ (List.replicate k (Value.int .u8 f) ++ ys.drop k)).set (xs.length + k) (.int .u8 f) = bv xs ++ (List.replicate (k + 1) (Value.int .u8 f) ++ ys.drop (k + 1))) := fun ys k hk => set_fill xs ys f k hk
  generalize hl : xs.length = len at *
  have hlen : (bv xs).length = len := by rw [bv_length]; exact hl
  go_enter Try.func10, Try.ntmps10
  go_wp2_with (at_make; refine wpList_make_own _ rfl _ _ 23 rfl w.heap.size 5 i0 (.int .u8 0) 1 Try.underlying23 hi hz0 hz1 _ _ _ (len + 3) rfl rfl (by omega) ?b2 ?b3 (Nat.le_refl _) ?_)
  case b2 => rw [hz2]; omega
  case b3 => unfold maxLen; omega
  intro w0 hown0 hgrow0
  have hcell : ∀ ad, ao = some ad → ∀ j u, (bv xs)[j]? = some u → w0.cell? (ad.add j) = some u := fun ad had j u hu => hgrow0.cell (h4 ad had j u hu) (by simp)
  go_wp2_with (at_builtin; refine wpList_append_fits_any _ rfl _ _ 23 rfl w.heap.size 5 i0 1 Try.underlying23 hi hz1 w.heap.size 0 (len + 3) _ rfl hown0 ao len cap (bv xs) rfl hL (fun e => ⟨by have := h3 e; omega, h3 e⟩) hcell (bv_one xs) (by omega) ?_)
  intro w1 hown1 hgrow1
  have hb1 : Below w.heap.size w w1 := ((Below.refl _ _).grown hgrow0 (Nat.le_refl _) (fun k e => by cases e)).grown hgrow1 hgrow0.size (fun k e => by cases e; exact Nat.le_refl _)
  have hown2 : w1.ownsRow w.heap.size 5 1 (.slice (some ⟨w.heap.size, 0, none⟩) len (len + 3)) len (bv xs) := by simpa using hown1
  obtain ⟨_, ys, hys, hfull⟩ := owns_full hown2
  have HY : Hid (ys.length = 3) := by unfold Hid; omega
  clear hown0 hown1 hown2 hgrow0 hgrow1 hcell h4 hys
  go_wp2
  go_loopw [7] (fun i wr => ∃ k : Nat, k ≤ 3 ∧ i = .int .i64 ((len : Int) + k) ∧ wr.ownsRow w.heap.size 5 1 (.slice (some ⟨w.heap.size, 0, none⟩) (len + 3) (len + 3)) (len + 3) (bv xs ++ (List.replicate k (Value.int .u8 f) ++ ys.drop k)) ∧ Below w.heap.size w wr) (fun i _ => len + 3 - (intOf i).toNat)
  case atStart => exact ⟨0, Nat.zero_le _, by simp, by simpa using hfull, hb1⟩
  case round =>
    obtain ⟨k, hk, rfl, hok, hbk⟩ := hrel
    by_cases hlt : k < 3
    · have hce : ∃ u, wr.cell? ⟨w.heap.size, len + k, none⟩ = some u := by
        rw [hok.cellAt (len + k) (by omega)]
        refine ⟨_, List.getElem?_eq_getElem ?_⟩
        have := HY.out
        simp [hlen]
        omega
      obtain ⟨u, hce⟩ := hce
      have hfz := hok.frozenAt (len + k)
      have hst := hok.stored (len + k) (.int .u8 f)
      have R := hst.1
      rw [HF.out ys k (by rw [HY.out]; exact hlt)] at R
      have G : Below w.heap.size w (wr.setCell ⟨w.heap.size, len + k, none⟩ (.int .u8 f)) := hbk.setCell (Nat.le_refl _) _
      have hk' : (k : Int) < 3 := by omega
      clear hst hok hbk
      go_wp2
      exact ⟨⟨k + 1, by omega, by go_num, R, G⟩, by simp [intOf]; omega⟩
    · obtain rfl : k = 3 := by omega
      have hd : ys.drop 3 = [] := List.drop_of_length_le (by rw [HY.out]; exact Nat.le_refl _)
      rw [hd, List.append_nil] at hok
      have HO := (show Hid _ from hok)
      clear hok hd hfull
      go_wp2
      go_ret
      exact ⟨rfl, HO.out, hbk⟩

/-- Only draws: all memory is as it was. -/
def Still (w w' : World) : Prop := ∀ B, Below B w w'
theorem Still.refl (w : World) : Still w w := fun B => Below.refl B w
theorem Still.trans {a b c : World} (h : Still a b) (k : Still b c) : Still a c := fun B => (h B).trans (k B)
theorem Still.drew {a w : World} (h : Still a w) : Still a w.drew := fun B => (h B).drew
theorem Still.cell {w w' : World} (h : Still w w') (a : Addr) : w'.cell? a = w.cell? a := (h (a.block + 1)).cell (by omega)
theorem Still.size {w w' : World} (h : Still w w') : w'.heap.size = w.heap.size := by
  have h1 := (h 0).size
  rcases Nat.lt_or_ge w.heap.size w'.heap.size with h2 | h2
  · have h3 := (h (w.heap.size + 1)).block w.heap.size (by omega)
    rw [Array.getElem?_eq_none (Nat.le_refl _), Array.getElem?_eq_getElem h2] at h3
    cases h3
  · omega
theorem Still.row {w w' : World} {v : Value} {xs : List Int} (h : Still w w') (r : Row w v xs) : Row w' v xs := r.below (h _)

theorem getD_eq {xs : List Int} {k : Nat} (h : k < xs.length) : xs.getD k 0 = xs[k] := by simp [List.getD, List.getElem?_eq_getElem h]

set_option maxHeartbeats 400000 in
theorem one_any (w : World) (x y : Int) : Calls Try.prog 42 #[.int .u8 x, .int .u8 y] w fun e w' => e = .returned (.bool (x == y)) ∧ w' = w := by
  go_enter Try.func42, Try.ntmps42
  go_wp2
  go_ret
  exact ⟨rfl, rfl⟩

theorem take_all_eq {xs ys : List Int} {n : Nat} (hx : xs.length = n) (hy : ys.length = n) (h : xs.take n = ys.take n) : xs = ys := by
  rw [List.take_of_length_le (by omega), List.take_of_length_le (by omega)] at h; exact h
theorem take_more {xs ys : List Int} {k : Nat} (hx : k < xs.length) (hy : k < ys.length) (h : xs.take k = ys.take k) (e : xs.getD k 0 = ys.getD k 0) : xs.take (k + 1) = ys.take (k + 1) := by
  rw [List.take_succ_eq_append_getElem hx, List.take_succ_eq_append_getElem hy, h, ← getD_eq hx, ← getD_eq hy, e]

set_option maxHeartbeats 1000000 in
theorem Same_any (w : World) (a b : Value) (xs ys : List Int) (ha : Row w a xs) (hb : Row w b ys) :
    Calls Try.prog 41 #[a, b, .func (.func 42) #[] #[]] w fun e w' => e = .returned (.bool (decide (xs = ys))) ∧ Still w w' := by
  have hxm := ha.len
  have hym := hb.len
  unfold maxLen at hxm hym
  by_cases hn : xs.length = ys.length
  · by_cases h0 : xs.length = 0
    · have e1 : xs = [] := List.eq_nil_of_length_eq_zero h0
      have e2 : ys = [] := List.eq_nil_of_length_eq_zero (by omega)
      subst e1 e2
      obtain ⟨ao, acap, hav⟩ := ha.of_len
      obtain ⟨bo, bcap, hbv⟩ := hb.of_len
      subst hav hbv
      simp only [List.length_nil]
      go_enter Try.func41, Try.ntmps41
      go_wp2
      refine wp_loop_rounds 1 ?_
      rw [rounds_succ]
      go_wp2
      go_ret
      exact ⟨rfl, Still.refl _⟩
    · obtain ⟨ab, ao, acap, rfl, _, hab, hac⟩ := ha.at (by intro e; subst e; simp at h0)
      obtain ⟨bb, bo, bcap, rfl, _, hbb, hbc⟩ := hb.at (by intro e; rw [e] at hn; exact h0 hn)
      rw [← hn]
      have HY : Hid (ys.length = xs.length) := hn.symm
      generalize hL : xs.length = len at *
      have HX : Hid (xs.length = len) := hL
      clear hn hL ha hb
      go_enter Try.func41, Try.ntmps41
      go_wp2
      go_loopw [7] (fun i wr => ∃ k : Nat, k ≤ len ∧ i = .int .i64 k ∧ xs.take k = ys.take k ∧ Still w wr) (fun i _ => len - (intOf i).toNat)
      case atStart => exact ⟨0, Nat.zero_le _, rfl, by simp, Still.refl _⟩
      case round =>
        obtain ⟨k, hk, rfl, htk, hst⟩ := hrel
        have HT : Hid (xs.take k = ys.take k) := htk
        clear htk
        by_cases hlt : k < len
        · have hA : wr.cell? ⟨ab, ao + k, none⟩ = some (.int .u8 (xs.getD k 0)) := (hst.cell _).trans (hac k hlt)
          have hB : wr.cell? ⟨bb, bo + k, none⟩ = some (.int .u8 (ys.getD k 0)) := (hst.cell _).trans (hbc k (by rw [HY.out]; exact hlt))
          obtain ⟨x, hx⟩ : ∃ x, x = xs.getD k 0 := ⟨_, rfl⟩
          obtain ⟨y, hy⟩ : ∃ y, y = ys.getD k 0 := ⟨_, rfl⟩
          rw [← hx] at hA
          rw [← hy] at hB
          have HXk : Hid (x = xs.getD k 0) := hx
          have HYk : Hid (y = ys.getD k 0) := hy
          have hlt' : (k : Int) < len := by omega
          clear hx hy
          by_cases he : x = y
          · subst he
            go_wp2_with fail
            go_region_with (go_at_call 42; refine (one_any _ _ _).mono ?_; rintro e w' ⟨rfl, rfl⟩)
            all_goals
              go_wp2
              exact ⟨⟨k + 1, by omega, by go_num, take_more (by rw [HX.out]; exact hlt) (by rw [HY.out]; exact hlt) HT.out (by rw [← HXk.out, ← HYk.out]), hst.drew⟩, by simp [intOf]; omega⟩
          · have hne : (x == y) = false := by simpa using he
            have hd : decide (xs = ys) = false := decide_eq_false (fun e => he (by rw [HXk.out, HYk.out, e]))
            have HD : Hid (decide (xs = ys) = false) := hd
            clear hd
            go_wp2_with fail
            go_region_with (go_at_call 42; refine (one_any _ _ _).mono ?_; rintro e w' ⟨rfl, rfl⟩)
            all_goals
              go_wp2
              go_ret
              exact ⟨ret_one (congrArg Value.bool HD.out.symm), hst.drew⟩
        · obtain rfl : k = len := by omega
          have hd : decide (xs = ys) = true := decide_eq_true (take_all_eq HX.out HY.out HT.out)
          have HD : Hid (decide (xs = ys) = true) := hd
          clear hd
          go_wp2
          go_ret
          exact ⟨ret_one (congrArg Value.bool HD.out.symm), hst⟩
  · obtain ⟨ao, acap, hav⟩ := ha.of_len
    obtain ⟨bo, bcap, hbv⟩ := hb.of_len
    subst hav hbv
    have hne : ((xs.length : Int) != (ys.length : Int)) = true := by simp; omega
    have hd : decide (xs = ys) = false := decide_eq_false (fun e => hn (by rw [e]))
    rw [hd]
    clear ha hb hd
    generalize xs.length = n at *
    generalize ys.length = m at *
    go_enter Try.func41, Try.ntmps41
    go_wp2
    go_ret
    exact ⟨rfl, Still.refl _⟩

set_option maxHeartbeats 1000000 in
theorem Plain_any (w : World) (a b : Value) (xs ys : List Int) (ha : Row w a xs) (hb : Row w b ys) :
    Calls Try.prog 29 #[a, b] w fun e w' => e = .returned (.bool (decide (xs = ys))) ∧ Still w w' := by
  go_enter Try.func29, Try.ntmps29
  go_wp2_with fail
  refine (Same_any w a b xs ys ha hb).mono ?_
  rintro e w1 ⟨rfl, hst⟩
  go_wp2
  go_ret
  exact ⟨rfl, hst⟩

set_option maxHeartbeats 1000000 in
/-- Kept: the copy, and its spare places, are as they were. -/
theorem Kept_any (w : World) (g : Nat) (base : Nat) (l : Value) (xs : List Int) (f : Int) (hf : 0 ≤ f ∧ f < 256) (hl : Row w l xs) (hn : xs.length ≤ 1000000)
    (ho : w.ownsRow base 5 1 (.slice (some ⟨g, 0, none⟩) (xs.length + 3) (xs.length + 3)) (xs.length + 3) (bv xs ++ List.replicate 3 (.int .u8 f))) :
    Calls Try.prog 18 #[.slice (some ⟨g, 0, none⟩) xs.length (xs.length + 3), l, .int .u8 f] w fun e w' => e = .returned (.bool true) ∧ Still w w' := by
  have hcut := owns_cut ho (n := xs.length) (by omega)
  rw [List.take_left' (bv_length xs)] at hcut
  have hrow : Row w (.slice (some ⟨g, 0, none⟩) xs.length (xs.length + 3)) xs := Own.row (base := base) ⟨hcut, hl.bys⟩
  have hce : ∀ k, k < 3 → w.cell? ⟨g, xs.length + k, none⟩ = some (.int .u8 f) := by
    intro k hk
    rw [ho.cellAt (xs.length + k) (by omega), List.getElem?_append_right (by rw [bv_length]; omega), bv_length, Nat.add_sub_cancel_left]
    rw [List.getElem?_replicate, if_pos hk]
  obtain ⟨lo, lcap, hlv⟩ := hl.of_len
  have HP := (show Hid _ from Plain_any w _ _ xs xs hrow hl)
  subst hlv
  clear hcut hrow ho hl
  generalize xs.length = len at *
  go_enter Try.func18, Try.ntmps18
  go_wp2_with fail
  refine Calls.mono HP.out ?_
  rintro e w1 ⟨rfl, hst⟩
  have hce1 : ∀ k, k < 3 → w1.cell? ⟨g, len + k, none⟩ = some (.int .u8 f) := fun k hk => (hst.cell _).trans (hce k hk)
  clear hce HP
  simp only [decide_true]
  go_wp2
  go_loop [8] (fun i => ∃ k : Nat, k ≤ 3 ∧ i = .int .i64 ((len : Int) + k)) (fun i => len + 3 - (intOf i).toNat)
  case atStart => exact ⟨0, Nat.zero_le _, by simp⟩
  case round =>
    obtain ⟨k, hk, rfl⟩ := hrel
    by_cases hlt : k < 3
    · have hck := hce1 k hlt
      have hk' : (k : Int) < 3 := by omega
      clear hce1
      go_wp2
      exact ⟨⟨k + 1, by omega, by go_num⟩, by simp [intOf]; omega⟩
    · obtain rfl : k = 3 := by omega
      go_wp2
      go_ret
      exact ⟨rfl, hst⟩
end Go.Proofs.Ytgkmgpjhpplkiaa
