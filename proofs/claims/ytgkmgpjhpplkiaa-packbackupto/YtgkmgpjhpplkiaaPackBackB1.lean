import Derived.Test.YtgkmgpjhpplkiaaPackN
import Derived.Test.YtgkmgpjhpplkiaaPackC
import Derived.Test.YtgkmgpjhpplkiaaPackR
import Derived.Deep.CutBlock
import Derived.Deep.DeepCutAuto
import Derived.BigQuiet
import Derived.BigRegion
import Derived.Test.YtgkmgpjhpplkiaaPackV
import Derived.Test.YtgkmgpjhpplkiaaSays
import Derived.Test.YtgkmgpjhpplkiaaRows
import Derived.Test.YtgkmgpjhpplkiaaOpen
import Derived.Test.YtgkmgpjhpplkiaaPackX
import Derived.Test.YtgkmgpjhpplkiaaPackD
import Derived.Test.YtgkmgpjhpplkiaaRunsM
import Derived.Test.YtgkmgpjhpplkiaaCore
import Derived.Deep.RegionHeld3
import Derived.Test.YtgkmgpjhpplkiaaHoldL
import Derived.OpenShut
import Derived.Test.YtgkmgpjhpplkiaaEntM
import Derived.Test.YtgkmgpjhpplkiaaNameA
import Derived.Test.YtgkmgpjhpplkiaaInoC
import Derived.Test.YtgkmgpjhpplkiaaPackM
/-
  The program's reader: a deed.
-/
namespace Go.Proofs.Ytgkmgpjhpplkiaa
open Go.RowKit
set_option linter.unusedVariables false
set_option maxRecDepth 100000

theorem drop_cons {xs : List Int} {a : Nat} (h : a < xs.length) : xs.drop a = xs.getD a 0 :: xs.drop (a + 1) := by
  rw [List.drop_eq_getElem_cons h]
  simp [List.getD, List.getElem?_eq_getElem h]

theorem getS1 {xs : List Int} {a : Nat} (h : a < xs.length) : getS xs a 1 = (xs.getD a 0, 0) := by
  have e := getS_inP (xs := xs) (a := a) (n := 1) (by omega) (by omega) (by omega)
  rw [show ((1 : Nat) : Int) = 1 from rfl] at e
  rw [e]
  have e2 : (xs.drop a).take 1 = [xs.getD a 0] := by
    rw [drop_cons h]
    rfl
  rw [e2]
  simp [num]
/-- What comes of the deed at a place. -/
def NextP (xs : List Int) (a1 : Nat) (q : Option (Dd × List Int)) (x : Dd) (at' er : Int) : Prop :=
  match q with
  | none => er = 3
  | some p => er = 0 ∧ x = p.1 ∧ ∃ a' : Nat, at' = a' ∧ p.2 = xs.drop a' ∧ a1 ≤ a' ∧ a' ≤ xs.length
def NextD (xs : List Int) (a : Nat) (x : Dd) (at' er : Int) : Prop :=
  if xs.getD a 0 < 1 ∨ 4 < xs.getD a 0 then er = 5 else NextP xs (a + 1) (deedD (xs.getD a 0) (xs.drop (a + 1))) x at' er
theorem next_of {α : Type} {xs : List Int} {d : Dec α} {r : Rd → α × Rd} (h : Rds xs d r) (f : α → Dd) {a1 : Nat} (ha : a1 ≤ xs.length) :
    NextP xs a1 (mapD f d (xs.drop a1)) (f (r ⟨a1, false⟩).1) (r ⟨a1, false⟩).2.at_ (erN (r ⟨a1, false⟩).2.bad) := by
  have hm := h.map f
  unfold NextP
  cases hc : mapD f d (xs.drop a1) with
  | none =>
    have := hm.no a1 ha hc
    unfold mapR at this
    dsimp only at this ⊢
    rw [this]
    rfl
  | some p =>
    obtain ⟨v, ys⟩ := p
    obtain ⟨a', e, hy, h1, h2⟩ := hm.yes a1 v ys ha hc
    unfold mapR at e
    simp only [Prod.mk.injEq] at e
    dsimp only
    rw [e.2]
    exact ⟨rfl, e.1, a', rfl, hy, h1, h2⟩

theorem grown7at (V : World) (B : Nat) (i0 i1 i2 i3 i4 i5 i6 : Nat) (v0 v1 v2 v3 v4 v5 v6 : Value) : V.grownBy (((((((V.setCell ⟨B, i0, none⟩ v0).setCell ⟨B, i1, none⟩ v1).setCell ⟨B, i2, none⟩ v2).setCell ⟨B, i3, none⟩ v3).setCell ⟨B, i4, none⟩ v4).setCell ⟨B, i5, none⟩ v5).setCell ⟨B, i6, none⟩ v6) (some B) :=
  grown_trans (grown_trans (grown_trans (grown_trans (grown_trans (grown_trans (grown_setCell _ _ _ _) (grown_setCell _ _ _ _)) (grown_setCell _ _ _ _)) (grown_setCell _ _ _ _)) (grown_setCell _ _ _ _)) (grown_setCell _ _ _ _)) (grown_setCell _ _ _ _)
theorem grown9 (V : World) (B : Nat) (v0 v1 v2 v3 v4 v5 v6 v7 v8 : Value) : V.grownBy (((((((((V.setCell ⟨B, 0, none⟩ v0).setCell ⟨B, 1, none⟩ v1).setCell ⟨B, 2, none⟩ v2).setCell ⟨B, 3, none⟩ v3).setCell ⟨B, 4, none⟩ v4).setCell ⟨B, 5, none⟩ v5).setCell ⟨B, 6, none⟩ v6).setCell ⟨B, 7, none⟩ v7).setCell ⟨B, 8, none⟩ v8) (some B) :=
  grown_trans (grown_trans (grown7 V B v0 v1 v2 v3 v4 v5 v6) (grown_setCell _ _ _ _)) (grown_setCell _ _ _ _)
theorem dv_num {k n : Int} (hk : (Lit.int .i64 k).wf = true) (hn : (Lit.int .i64 n).wf = true) : Dv.Wf ⟨⟨k, n, noI⟩, .slice none 0 0, .slice none 0 0⟩ :=
  ⟨hk, hn, wf_i64 (by simp [noI]) (by simp [noI]), wf_i64 (by simp [noI]) (by simp [noI]), wf_i64 (by simp [noI]) (by simp [noI]), wf_i64 (by simp [noI]) (by simp [noI]), by simp [noI], rfl, rfl⟩

/-- Answers such a deed. -/
def SaysD (xs : List Int) (a P : Nat) (b : Value) (w : World) (e : Ending) (w' : World) : Prop :=
  ∃ (x : Dv) (at' er : Int), e = .returned (.agg x.cells.toArray) ∧ x.Wf ∧ EOwn w.heap.size w' x.ev x.d.x.es ∧ ROwn w.heap.size w' x.rv x.d.x.rs ∧ Blk w' P #[b, .int .i64 at', .int .i64 er] 53 ∧ w.grownBy w' (some P) ∧ NextD xs a x.d at' er

set_option maxHeartbeats 8000000 in
theorem PDeed_any (w : World) (P : Nat) (b : Value) (xs : List Int) (a : Nat) (hB : RdQ w P b ⟨a, false⟩) (hr : RowP w P b xs) (ha : a < xs.length) (hx : xs.length ≤ 1000000) :
    Calls Try.prog 21 #[.pointer (some ⟨P, 0, none⟩)] w (SaysD xs a P b w) := by
  have hby := (hr w (World.grownBy.refl _ _)).bys
  have HC1 := hide (fun w' (hb : RdQ w' P b ⟨a, false⟩) (hg : w.grownBy w' (some P)) => PBytes_any w' P b xs ⟨a, false⟩ 1 hb (hr w' hg) (by dsimp only; omega) (by dsimp only; omega) (by omega) (by omega))
  have hg1 : gdR 0 (rdBy xs 1) ⟨a, false⟩ = (xs.getD a 0, ⟨((a + 1 : Nat) : Int), false⟩) := by
    unfold gdR rdBy
    rw [if_neg (by simp)]
    dsimp only
    rw [getS1 ha]
    rfl
  rw [hg1] at HC1
  have hk := hby.at a
  have hdr := drop_cons ha
  have HFin := hide (fun (x : Dv) (at' er : Int) (e : Ending) (w' : World) (h1 : e = .returned (.agg x.cells.toArray)) (h2 : x.Wf) (h3 : EOwn w.heap.size w' x.ev x.d.x.es) (h4 : ROwn w.heap.size w' x.rv x.d.x.rs) (h5 : Blk w' P #[b, .int .i64 at', .int .i64 er] 53) (h6 : w.grownBy w' (some P))
    (h7 : if xs.getD a 0 < 1 ∨ 4 < xs.getD a 0 then er = 5 else NextP xs (a + 1) (deedD (xs.getD a 0) (xs.drop (a + 1))) x.d at' er) => (show SaysD xs a P b w e w' from ⟨x, at', er, h1, h2, h3, h4, h5, h6, h7⟩))
  generalize hG : SaysD xs a P b w = G at *
  clear hG
  generalize hkk : xs.getD a 0 = k at *
  have hS1 : InS xs 8 ⟨((a + 1 : Nat) : Int), false⟩ := ⟨by dsimp only; omega, by dsimp only; omega, fun _ => by dsimp only; omega⟩
  have HN := hide (fun w' (hb : RdQ w' P b ⟨((a + 1 : Nat) : Int), false⟩) (hg : w.grownBy w' (some P)) => PNumber_any w' P b xs ⟨((a + 1 : Nat) : Int), false⟩ hb (hr w' hg) (by dsimp only; omega) (by dsimp only; omega))
  have HI := hide (fun w' (hb : RdQ w' P b ⟨((a + 1 : Nat) : Int), false⟩) (hg : w.grownBy w' (some P)) => PInode_any w' P b xs ⟨((a + 1 : Nat) : Int), false⟩ hb (hr.to hg) hS1 hx)
  have HX1 := hide (next_of ((num_rds xs).gd 0) (fun v => (⟨k, v, noI⟩ : Dd)) (show a + 1 ≤ xs.length by omega))
  have HX2 := hide (next_of (ino_rdsP hby) (fun x => (⟨2, 0, x⟩ : Dd)) (show a + 1 ≤ xs.length by omega))
  have hwn := gnum_wf xs ⟨((a + 1 : Nat) : Int), false⟩
  generalize (gdR 0 (rdNum xs) ⟨((a + 1 : Nat) : Int), false⟩).1 = nv at *
  generalize (gdR 0 (rdNum xs) ⟨((a + 1 : Nat) : Int), false⟩).2 = ns at *
  generalize rdInoP xs ⟨((a + 1 : Nat) : Int), false⟩ = ri at *
  obtain ⟨ix, is⟩ := ri
  have HB := hide hB
  have HPL := hide hB.lt
  have HWN := hide hwn
  clear hB hr hg1 hby hdr hkk hwn hS1 hx ha
  have hba := kl_alloc w (.cells #[.int .i64 0, .int .i64 0, .int .i64 0, .int .i64 0, .int .i64 0, .int .i64 0, .string ⟨#[]⟩, .slice none 0 0, .slice none 0 0] 38)
  have hbl := Blk.new w #[.int .i64 0, .int .i64 0, .int .i64 0, .int .i64 0, .int .i64 0, .int .i64 0, .string ⟨#[]⟩, .slice none 0 0, .slice none 0 0] 38
  have HB0 := hide (show RdQ _ P b ⟨a, false⟩ from kl_blk hba HB.out)
  have HG0 := hide (below_grown hba (some P))
  have HR0 := hide hbl
  have HZ0 := hide (show w.heap.size + 1 ≤ (w.alloc (.cells #[.int .i64 0, .int .i64 0, .int .i64 0, .int .i64 0, .int .i64 0, .int .i64 0, .string ⟨#[]⟩, .slice none 0 0, .slice none 0 0] 38)).heap.size by simp)
  clear hba hbl HB
  go_enter Try.func21, Try.ntmps21
  go_upto_region 1 with fail
  generalize w.alloc (.cells #[.int .i64 0, .int .i64 0, .int .i64 0, .int .i64 0, .int .i64 0, .int .i64 0, .string ⟨#[]⟩, .slice none 0 0, .slice none 0 0] 38) = W0 at *
  generalize hA : w.heap.size = R at *
  have HAE := hide hA
  have HNE := hide (show some R ≠ some P by intro e; have e' := Option.some.inj e; have := HPL.out; omega)
  clear hA
  obtain ⟨hk0, hk1⟩ := hk
  go_wp2_with fail
  refine (HC1.out W0 HB0.out HG0.out).mono ?_
  rintro e w1 ⟨rfl, hq, hg⟩
  have HB1 := hide hq
  have HR1 := hide (HR0.out.kept hg HNE.out)
  have HG1 := hide (grown_trans HG0.out hg)
  have HZ1 := hide (Nat.le_trans HZ0.out hg.size)
  clear hq hg HB0 HR0 HG0 HZ0
  go_upto_region 2 with fail
  have hba := kl_alloc w1 (.cells #[.int .i64 k, .int .i64 0, .int .i64 0, .int .i64 0, .int .i64 0, .int .i64 0, .string ⟨#[]⟩, .slice none 0 0, .slice none 0 0] 38)
  have hbl := Blk.new w1 #[.int .i64 k, .int .i64 0, .int .i64 0, .int .i64 0, .int .i64 0, .int .i64 0, .string ⟨#[]⟩, .slice none 0 0, .slice none 0 0] 38
  have HB2 := hide (show RdQ _ P b ⟨((a + 1 : Nat) : Int), false⟩ from kl_blk hba HB1.out)
  have HR2 := hide (kl_blk hba HR1.out)
  have HG2 := hide (grown_trans HG1.out (below_grown hba (some P)))
  have HD2 := hide hbl
  have HZ2 := hide (Nat.le_trans HZ1.out hba.size)
  clear hba hbl HB1 HR1 HG1
  generalize w1.alloc (.cells #[.int .i64 k, .int .i64 0, .int .i64 0, .int .i64 0, .int .i64 0, .int .i64 0, .string ⟨#[]⟩, .slice none 0 0, .slice none 0 0] 38) = V at *
  generalize hD : w1.heap.size = D at *
  have HND := hide (show some D ≠ some P by intro e; have e' := Option.some.inj e; have := HPL.out; have := HZ1.out; omega)
  have hRD : R ≠ D := by have := HZ1.out; omega
  have HRD := hide hRD
  have HDL := hide (show R < D by have := HZ1.out; omega)
  clear hD hRD HZ1
  have d0 : V.cell? ⟨D, 0, none⟩ = some (.int .i64 k) := HD2.out.cell 0
  by_cases hkk : k = 1 ∨ k = 3 ∨ k = 4
  · have HK1 := hide (show ¬ (k < 1 ∨ 4 < k) by omega)
    have HX := hide (show NextP xs (a + 1) (deedD k (xs.drop (a + 1))) ⟨k, nv, noI⟩ ns.at_ (erN ns.bad) by unfold deedD; rw [if_pos hkk]; exact HX1.out)
    clear HX1 HX2 HI
    have d1 : V.cell? ⟨D, 1, none⟩ = some (.int .i64 0) := HD2.out.cell 1
    rcases hkk with rfl | rfl | rfl
    all_goals
      go_wp2_with fail
      refine (HN.out V HB2.out HG2.out).mono ?_
      rintro e w3 ⟨rfl, hq, hg⟩
      have HB3 := hide hq
      have HR3 := hide (HR2.out.kept hg HNE.out)
      have HD3 := hide (HD2.out.kept hg HND.out)
      have HG3 := hide (grown_trans HG2.out hg)
      clear hq hg d0 d1 HB2 HR2 HD2 HG2 HN
      have d1 : w3.cell? ⟨D, 1, none⟩ = some (.int .i64 0) := HD3.out.cell 1
      have f1 := HD3.out.frozen 1
      have HD4 := hide (show Blk (w3.setCell ⟨D, 1, none⟩ (.int .i64 nv)) D #[_, .int .i64 nv, .int .i64 0, .int .i64 0, .int .i64 0, .int .i64 0, .string ⟨#[]⟩, .slice none 0 0, .slice none 0 0] 38 from HD3.out.set 1 (.int .i64 nv))
      have HR4 := hide (HR3.out.kept (grown_setCell w3 D 1 (.int .i64 nv)) (by simpa using HRD.out))
      have HB4 := hide (show RdQ _ P b ns from Blk.kept HB3.out (grown_setCell w3 D 1 (.int .i64 nv)) (fun e => HND.out e.symm))
      have HG4 := hide (grown_mix HG3.out (grown_setCell w3 D 1 (.int .i64 nv)) (fun j e => by cases e; rw [HAE.out]; exact Nat.le_of_lt HDL.out))
      clear HB3 HR3 HD3 HG3
      go_upto_region 10 with fail
      generalize w3.setCell ⟨D, 1, none⟩ (.int .i64 nv) = V4 at *
      clear d1 f1
      have e0 := HD4.out.cell 0
      have e1 : V4.cell? ⟨D, 1, none⟩ = some (.int .i64 nv) := HD4.out.cell 1
      have e2 : V4.cell? ⟨D, 2, none⟩ = some (.int .i64 0) := HD4.out.cell 2
      have e3 : V4.cell? ⟨D, 3, none⟩ = some (.int .i64 0) := HD4.out.cell 3
      have e4 : V4.cell? ⟨D, 4, none⟩ = some (.int .i64 0) := HD4.out.cell 4
      have e5 : V4.cell? ⟨D, 5, none⟩ = some (.int .i64 0) := HD4.out.cell 5
      have e6 : V4.cell? ⟨D, 6, none⟩ = some (.string ⟨#[]⟩) := HD4.out.cell 6
      have e7 : V4.cell? ⟨D, 7, none⟩ = some (.slice none 0 0) := HD4.out.cell 7
      have e8 : V4.cell? ⟨D, 8, none⟩ = some (.slice none 0 0) := HD4.out.cell 8
      simp only [List.getElem?_toArray, List.getElem?_cons_zero] at e0
      have z0 : V4.cell? ⟨R, 0, none⟩ = some (.int .i64 0) := HR4.out.cell 0
      have y0 := HR4.out.frozen 0
      have z1 : V4.cell? ⟨R, 1, none⟩ = some (.int .i64 0) := HR4.out.cell 1
      have y1 := HR4.out.frozen 1
      have z2 : V4.cell? ⟨R, 2, none⟩ = some (.int .i64 0) := HR4.out.cell 2
      have y2 := HR4.out.frozen 2
      have z3 : V4.cell? ⟨R, 3, none⟩ = some (.int .i64 0) := HR4.out.cell 3
      have y3 := HR4.out.frozen 3
      have z4 : V4.cell? ⟨R, 4, none⟩ = some (.int .i64 0) := HR4.out.cell 4
      have y4 := HR4.out.frozen 4
      have z5 : V4.cell? ⟨R, 5, none⟩ = some (.int .i64 0) := HR4.out.cell 5
      have y5 := HR4.out.frozen 5
      have z6 : V4.cell? ⟨R, 6, none⟩ = some (.string ⟨#[]⟩) := HR4.out.cell 6
      have y6 := HR4.out.frozen 6
      have z7 : V4.cell? ⟨R, 7, none⟩ = some (.slice none 0 0) := HR4.out.cell 7
      have y7 := HR4.out.frozen 7
      have z8 : V4.cell? ⟨R, 8, none⟩ = some (.slice none 0 0) := HR4.out.cell 8
      have y8 := HR4.out.frozen 8
      go_wp2
      refine bodyPost_ret (results_cell_row rfl _ _ R 38 _ (0, 0) _ rfl (blk_over9 HR4.out _ _ _ _ _ _ _ _ _) Try.underlying38 rfl (by kernel_rfl)) rfl (HFin.out ⟨⟨_, nv, noI⟩, .slice none 0 0, .slice none 0 0⟩ _ _ _ _ rfl (dv_num (wf_i64 (by decide) (by decide)) HWN.out) (EOwn.nil _ _) (ROwn.nil _ _) (Blk.kept HB4.out (grown9 _ _ _ _ _ _ _ _ _ _ _) (fun e => HNE.out e.symm)) ?_ ?_)
      · exact grown_mix HG4.out (grown9 _ _ _ _ _ _ _ _ _ _ _) (fun j e => by cases e; rw [HAE.out]; exact Nat.le_refl _)
      · rw [if_neg HK1.out]; exact HX.out
  · by_cases hk2 : k = 2
    · subst hk2
      have HX := hide (show NextP xs (a + 1) (deedD 2 (xs.drop (a + 1))) ⟨2, 0, ix⟩ is.at_ (erN is.bad) by unfold deedD; rw [if_neg (by decide)]; exact HX2.out)
      clear HX1 HX2 HN hkk
      go_wp2_with fail
      refine (HI.out V HB2.out HG2.out).mono ?_
      rintro e w3 ⟨ev, rv, rfl, hwf, hev, hrv, hq, hg⟩
      have HB3 := hide hq
      have HR3 := hide (HR2.out.kept hg HNE.out)
      have HD3 := hide (HD2.out.kept hg HND.out)
      have HG3 := hide (grown_trans HG2.out hg)
      have HEV := hide hev
      have HRV := hide hrv
      have HWI := hide hwf
      have HVL := hide (show D < V.heap.size from HD2.out.lt)
      dsimp only at HB3 HEV HRV HWI
      obtain ⟨ino, ikind, ilinks, isize, it, es, rs⟩ := ix
      dsimp only [inoCells] at HEV HRV HWI ⊢
      obtain ⟨ea, ec, hea⟩ := HEV.out.row.of_len
      generalize es.length = le at hea
      subst hea
      obtain ⟨ra, rc, hra⟩ := HRV.out.row.of_len
      generalize rs.length = lr at hra
      subst hra
      clear hq hg d0 HB2 HR2 HD2 HG2 HI hwf hev hrv
      have d2 : w3.cell? ⟨D, 2, none⟩ = some (.int .i64 0) := HD3.out.cell 2
      have f2 := HD3.out.frozen 2
      have d3 : w3.cell? ⟨D, 3, none⟩ = some (.int .i64 0) := HD3.out.cell 3
      have f3 := HD3.out.frozen 3
      have d4 : w3.cell? ⟨D, 4, none⟩ = some (.int .i64 0) := HD3.out.cell 4
      have f4 := HD3.out.frozen 4
      have d5 : w3.cell? ⟨D, 5, none⟩ = some (.int .i64 0) := HD3.out.cell 5
      have f5 := HD3.out.frozen 5
      have d6 : w3.cell? ⟨D, 6, none⟩ = some (.string ⟨#[]⟩) := HD3.out.cell 6
      have f6 := HD3.out.frozen 6
      have d7 : w3.cell? ⟨D, 7, none⟩ = some (.slice none 0 0) := HD3.out.cell 7
      have f7 := HD3.out.frozen 7
      have d8 : w3.cell? ⟨D, 8, none⟩ = some (.slice none 0 0) := HD3.out.cell 8
      have f8 := HD3.out.frozen 8
      have HD4 := hide (show Blk (((((((w3.setCell ⟨D, 2, none⟩ (.int .i64 ino)).setCell ⟨D, 3, none⟩ (.int .i64 ikind)).setCell ⟨D, 4, none⟩ (.int .i64 ilinks)).setCell ⟨D, 5, none⟩ (.int .i64 isize)).setCell ⟨D, 6, none⟩ (.string it)).setCell ⟨D, 7, none⟩ (.slice ea le ec)).setCell ⟨D, 8, none⟩ (.slice ra lr rc)) D #[.int .i64 2, .int .i64 0, .int .i64 ino, .int .i64 ikind, .int .i64 ilinks, .int .i64 isize, .string it, .slice ea le ec, .slice ra lr rc] 38 from (((((((HD3.out.set 2 (.int .i64 ino)).set 3 (.int .i64 ikind)).set 4 (.int .i64 ilinks)).set 5 (.int .i64 isize)).set 6 (.string it)).set 7 (.slice ea le ec)).set 8 (.slice ra lr rc)))
      have hg7 := grown7at w3 D 2 3 4 5 6 7 8 (.int .i64 ino) (.int .i64 ikind) (.int .i64 ilinks) (.int .i64 isize) (.string it) (.slice ea le ec) (.slice ra lr rc)
      have HR4 := hide (HR3.out.kept hg7 (by simpa using HRD.out))
      have HB4 := hide (show RdQ _ P b is from Blk.kept HB3.out hg7 (fun e => HND.out e.symm))
      have HG4 := hide (grown_mix HG3.out hg7 (fun j e => by cases e; rw [HAE.out]; exact Nat.le_of_lt HDL.out))
      have HE4 := hide (HEV.out.grown hg7 (fun j e => by cases e; exact HVL.out))
      have HV4 := hide (HRV.out.grown hg7 (fun j e => by cases e; exact HVL.out))
      clear hg7 HB3 HR3 HD3 HG3 HEV HRV
      go_upto_region 10 with fail
      generalize (((((((w3.setCell ⟨D, 2, none⟩ (.int .i64 ino)).setCell ⟨D, 3, none⟩ (.int .i64 ikind)).setCell ⟨D, 4, none⟩ (.int .i64 ilinks)).setCell ⟨D, 5, none⟩ (.int .i64 isize)).setCell ⟨D, 6, none⟩ (.string it)).setCell ⟨D, 7, none⟩ (.slice ea le ec)).setCell ⟨D, 8, none⟩ (.slice ra lr rc)) = V4 at *
      clear d2 d3 d4 d5 d6 d7 d8 f2 f3 f4 f5 f6 f7 f8
      have e0 : V4.cell? ⟨D, 0, none⟩ = some (.int .i64 2) := HD4.out.cell 0
      have e1 : V4.cell? ⟨D, 1, none⟩ = some (.int .i64 0) := HD4.out.cell 1
      have e2 : V4.cell? ⟨D, 2, none⟩ = some (.int .i64 ino) := HD4.out.cell 2
      have e3 : V4.cell? ⟨D, 3, none⟩ = some (.int .i64 ikind) := HD4.out.cell 3
      have e4 : V4.cell? ⟨D, 4, none⟩ = some (.int .i64 ilinks) := HD4.out.cell 4
      have e5 : V4.cell? ⟨D, 5, none⟩ = some (.int .i64 isize) := HD4.out.cell 5
      have e6 : V4.cell? ⟨D, 6, none⟩ = some (.string it) := HD4.out.cell 6
      have e7 : V4.cell? ⟨D, 7, none⟩ = some (.slice ea le ec) := HD4.out.cell 7
      have e8 : V4.cell? ⟨D, 8, none⟩ = some (.slice ra lr rc) := HD4.out.cell 8
      have z0 : V4.cell? ⟨R, 0, none⟩ = some (.int .i64 0) := HR4.out.cell 0
      have y0 := HR4.out.frozen 0
      have z1 : V4.cell? ⟨R, 1, none⟩ = some (.int .i64 0) := HR4.out.cell 1
      have y1 := HR4.out.frozen 1
      have z2 : V4.cell? ⟨R, 2, none⟩ = some (.int .i64 0) := HR4.out.cell 2
      have y2 := HR4.out.frozen 2
      have z3 : V4.cell? ⟨R, 3, none⟩ = some (.int .i64 0) := HR4.out.cell 3
      have y3 := HR4.out.frozen 3
      have z4 : V4.cell? ⟨R, 4, none⟩ = some (.int .i64 0) := HR4.out.cell 4
      have y4 := HR4.out.frozen 4
      have z5 : V4.cell? ⟨R, 5, none⟩ = some (.int .i64 0) := HR4.out.cell 5
      have y5 := HR4.out.frozen 5
      have z6 : V4.cell? ⟨R, 6, none⟩ = some (.string ⟨#[]⟩) := HR4.out.cell 6
      have y6 := HR4.out.frozen 6
      have z7 : V4.cell? ⟨R, 7, none⟩ = some (.slice none 0 0) := HR4.out.cell 7
      have y7 := HR4.out.frozen 7
      have z8 : V4.cell? ⟨R, 8, none⟩ = some (.slice none 0 0) := HR4.out.cell 8
      have y8 := HR4.out.frozen 8
      have HRV4 := hide (show R < V.heap.size from Nat.lt_trans HDL.out HVL.out)
      go_wp2
      refine bodyPost_ret (results_cell_row rfl _ _ R 38 _ (0, 0) _ rfl (blk_over9 HR4.out _ _ _ _ _ _ _ _ _) Try.underlying38 rfl (by kernel_rfl)) rfl (HFin.out ⟨⟨2, 0, ⟨ino, ikind, ilinks, isize, it, es, rs⟩⟩, .slice ea le ec, .slice ra lr rc⟩ _ _ _ _ rfl ⟨wf_i64 (by simp) (by simp), wf_i64 (by simp) (by simp), HWI.out.no, HWI.out.kind, HWI.out.links, HWI.out.size, HWI.out.t, rfl, rfl⟩ ?_ ?_ (Blk.kept HB4.out (grown9 _ _ _ _ _ _ _ _ _ _ _) (fun e => HNE.out e.symm)) ?_ ?_)
      · exact (HE4.out.grown (grown9 _ _ _ _ _ _ _ _ _ _ _) (fun j e => by cases e; exact HRV4.out)).mono (Nat.le_of_lt HRV4.out)
      · exact (HV4.out.grown (grown9 _ _ _ _ _ _ _ _ _ _ _) (fun j e => by cases e; exact HRV4.out)).mono (Nat.le_of_lt HRV4.out)
      · exact grown_mix HG4.out (grown9 _ _ _ _ _ _ _ _ _ _ _) (fun j e => by cases e; rw [HAE.out]; exact Nat.le_refl _)
      · rw [if_neg (by decide)]; exact HX.out
    · have HK1 := hide (show k < 1 ∨ 4 < k by omega)
      have h1 : (k == 1) = false := by simp; omega
      have h2 : (k == 2) = false := by simp; omega
      have h3 : (k == 3) = false := by simp; omega
      have h4 : (k == 4) = false := by simp; omega
      have HKW := hide (show (Lit.int .i64 k).wf = true from wf_i64 (by omega) (by omega))
      clear HX1 HX2 HI HN hkk hk2
      have p2 : V.cell? ⟨P, 2, none⟩ = some (.int .i64 0) := HB2.out.cell 2
      have pf := HB2.out.frozen 2
      have HD4 := hide (HD2.out.kept (grown_setCell V P 2 (.int .i64 5)) HND.out)
      have HR4 := hide (HR2.out.kept (grown_setCell V P 2 (.int .i64 5)) HNE.out)
      have HB4 := hide (show Blk (V.setCell ⟨P, 2, none⟩ (.int .i64 5)) P #[b, .int .i64 ((a + 1 : Nat) : Int), .int .i64 5] 53 from HB2.out.set 2 (.int .i64 5))
      have HG4 := hide (grown_trans HG2.out (grown_setCell V P 2 (.int .i64 5)))
      clear HB2 HR2 HD2 HG2
      clear hk0 hk1
      go_upto_region 10 with fail
      generalize V.setCell ⟨P, 2, none⟩ (.int .i64 5) = V4 at *
      clear d0 p2 pf
      have e0 : V4.cell? ⟨D, 0, none⟩ = some (.int .i64 k) := HD4.out.cell 0
      have e1 : V4.cell? ⟨D, 1, none⟩ = some (.int .i64 0) := HD4.out.cell 1
      have e2 : V4.cell? ⟨D, 2, none⟩ = some (.int .i64 0) := HD4.out.cell 2
      have e3 : V4.cell? ⟨D, 3, none⟩ = some (.int .i64 0) := HD4.out.cell 3
      have e4 : V4.cell? ⟨D, 4, none⟩ = some (.int .i64 0) := HD4.out.cell 4
      have e5 : V4.cell? ⟨D, 5, none⟩ = some (.int .i64 0) := HD4.out.cell 5
      have e6 : V4.cell? ⟨D, 6, none⟩ = some (.string ⟨#[]⟩) := HD4.out.cell 6
      have e7 : V4.cell? ⟨D, 7, none⟩ = some (.slice none 0 0) := HD4.out.cell 7
      have e8 : V4.cell? ⟨D, 8, none⟩ = some (.slice none 0 0) := HD4.out.cell 8
      have z0 : V4.cell? ⟨R, 0, none⟩ = some (.int .i64 0) := HR4.out.cell 0
      have y0 := HR4.out.frozen 0
      have z1 : V4.cell? ⟨R, 1, none⟩ = some (.int .i64 0) := HR4.out.cell 1
      have y1 := HR4.out.frozen 1
      have z2 : V4.cell? ⟨R, 2, none⟩ = some (.int .i64 0) := HR4.out.cell 2
      have y2 := HR4.out.frozen 2
      have z3 : V4.cell? ⟨R, 3, none⟩ = some (.int .i64 0) := HR4.out.cell 3
      have y3 := HR4.out.frozen 3
      have z4 : V4.cell? ⟨R, 4, none⟩ = some (.int .i64 0) := HR4.out.cell 4
      have y4 := HR4.out.frozen 4
      have z5 : V4.cell? ⟨R, 5, none⟩ = some (.int .i64 0) := HR4.out.cell 5
      have y5 := HR4.out.frozen 5
      have z6 : V4.cell? ⟨R, 6, none⟩ = some (.string ⟨#[]⟩) := HR4.out.cell 6
      have y6 := HR4.out.frozen 6
      have z7 : V4.cell? ⟨R, 7, none⟩ = some (.slice none 0 0) := HR4.out.cell 7
      have y7 := HR4.out.frozen 7
      have z8 : V4.cell? ⟨R, 8, none⟩ = some (.slice none 0 0) := HR4.out.cell 8
      have y8 := HR4.out.frozen 8
      go_wp2
      refine bodyPost_ret (results_cell_row rfl _ _ R 38 _ (0, 0) _ rfl (blk_over9 HR4.out _ _ _ _ _ _ _ _ _) Try.underlying38 rfl (by kernel_rfl)) rfl (HFin.out ⟨⟨k, 0, noI⟩, .slice none 0 0, .slice none 0 0⟩ _ _ _ _ rfl (dv_num HKW.out (wf_i64 (by decide) (by decide))) (EOwn.nil _ _) (ROwn.nil _ _) (Blk.kept HB4.out (grown9 _ _ _ _ _ _ _ _ _ _ _) (fun e => HNE.out e.symm)) ?_ ?_)
      · exact grown_mix HG4.out (grown9 _ _ _ _ _ _ _ _ _ _ _) (fun j e => by cases e; rw [HAE.out]; exact Nat.le_refl _)
      · rw [if_pos HK1.out]
end Go.Proofs.Ytgkmgpjhpplkiaa

/-
  The program's Parse.
-/
namespace Go.Proofs.Ytgkmgpjhpplkiaa
open Go.RowKit
set_option linter.unusedVariables false
set_option maxRecDepth 100000

theorem app_cons (m : List Dd) (d : Dd) (r : List Dd × Int) : appD m (consD d r) = appD (m ++ [d]) r := by
  unfold appD consD
  by_cases h : r.2 = 0
  · simp [h]
  · simp [h]
theorem un_step {xs : List Int} {a n : Nat} {x : Dd} {at' er : Int} (ha : a < xs.length) (h : NextD xs a x at' er) :
    (er ≠ 0 → unS (n + 1) (xs.drop a) = ([], er)) ∧ (er = 0 → ∃ a' : Nat, at' = a' ∧ a + 1 ≤ a' ∧ a' ≤ xs.length ∧ unS (n + 1) (xs.drop a) = consD x (unS n (xs.drop a'))) := by
  rw [drop_cons ha, unS]
  unfold NextD at h
  by_cases hk : xs.getD a 0 < 1 ∨ 4 < xs.getD a 0
  · rw [if_pos hk] at h
    subst h
    rw [if_pos hk]
    exact ⟨fun _ => rfl, fun e => by cases e⟩
  · rw [if_neg hk] at h
    rw [if_neg hk]
    unfold NextP at h
    cases hd : deedD (xs.getD a 0) (xs.drop (a + 1)) with
    | none =>
      rw [hd] at h
      dsimp only at h ⊢
      subst h
      exact ⟨fun _ => rfl, fun e => by cases e⟩
    | some p =>
      rw [hd] at h
      dsimp only at h ⊢
      obtain ⟨rfl, rfl, a', h1, h2, h3, h4⟩ := h
      exact ⟨fun e => absurd rfl e, fun _ => ⟨a', h1, h3, h4, by rw [h2]⟩⟩

theorem EOwn.beside {base : Nat} {w w' : World} {u v : Value} {n : Nat} {xs : List Value} {l : List En} (h : EOwn base w v l) (ho : w.ownsRow base 38 9 u n xs) (hg : w.grownBy w' u.ownBlock) : EOwn base w' v l := by
  refine ⟨h.1.kept hg ?_, h.2⟩
  rcases h.1.2 with ⟨hn, _⟩ | ⟨g, cap, cur, hv, hbg, hh, _⟩
  · exact .inl (by rw [hn]; rfl)
  · right
    rcases ho.2 with ⟨hn, _⟩ | ⟨g', cap', cur', hu, _, hh', _⟩
    · rw [hv, hn]; simp [Value.ownBlock]
    · rw [hv, hu]
      intro e
      have e' : g = g' := by simpa [Value.ownBlock] using e
      rw [e', hh'] at hh
      simp only [Option.some.injEq, Obj.cells.injEq] at hh
      exact absurd hh.2.1 (by decide)
theorem ROwn.beside {base : Nat} {w w' : World} {u v : Value} {n : Nat} {xs : List Value} {l : List Rn} (h : ROwn base w v l) (ho : w.ownsRow base 38 9 u n xs) (hg : w.grownBy w' u.ownBlock) : ROwn base w' v l := by
  refine ⟨h.1.kept hg ?_, h.2⟩
  rcases h.1.2 with ⟨hn, _⟩ | ⟨g, cap, cur, hv, hbg, hh, _⟩
  · exact .inl (by rw [hn]; rfl)
  · right
    rcases ho.2 with ⟨hn, _⟩ | ⟨g', cap', cur', hu, _, hh', _⟩
    · rw [hv, hn]; simp [Value.ownBlock]
    · rw [hv, hu]
      intro e
      have e' : g = g' := by simpa [Value.ownBlock] using e
      rw [e', hh'] at hh
      simp only [Option.some.injEq, Obj.cells.injEq] at hh
      exact absurd hh.2.1 (by decide)
/-- Deeds that the call made, with all that hangs on them. -/
def DMade (base : Nat) (w : World) (v : Value) (l : List Dv) : Prop :=
  (w.ownsRow base 38 9 v l.length (flatD l) ∧ ∀ x ∈ l, x.Wf) ∧ ∀ x ∈ l, EOwn base w x.ev x.d.x.es ∧ ROwn base w x.rv x.d.x.rs
theorem DMade.nil (base : Nat) (w : World) : DMade base w (.slice none 0 0) [] := ⟨⟨World.ownsRow_nil _ _ _ _, fun r h => by cases h⟩, fun r h => by cases h⟩
theorem DMade.own {base : Nat} {w : World} {v : Value} {l : List Dv} (h : DMade base w v l) : DOwn base w v l :=
  ⟨h.1, fun x hx => ⟨⟨(h.2 x hx).1.row, (h.2 x hx).2.row⟩, .inr ((h.2 x hx).1.apart _), .inr ((h.2 x hx).2.apart _)⟩⟩
theorem DMade.kept {base : Nat} {w w' : World} {v : Value} {l : List Dv} (h : DMade base w v l) (hb : Below w.heap.size w w') : DMade base w' v l :=
  ⟨⟨h.1.1.kept (row := none) ⟨hb.os, hb.tape, hb.output, hb.size, fun k hk _ => hb.block k hk⟩ (by cases hv : v.ownBlock <;> simp), h.1.2⟩, fun x hx => ⟨(h.2 x hx).1.kept hb, (h.2 x hx).2.kept hb⟩⟩
theorem DMade.grown {base : Nat} {w w' : World} {v : Value} {l : List Dv} {r : Option Nat} (h : DMade base w v l) (hg : w.grownBy w' r) (hr : ∀ k, r = some k → k < base) : DMade base w' v l := by
  refine ⟨⟨h.1.1.kept hg ?_, h.1.2⟩, fun x hx => ⟨(h.2 x hx).1.grown hg hr, (h.2 x hx).2.grown hg hr⟩⟩
  cases hv : v.ownBlock with
  | none => exact .inl rfl
  | some k =>
    right
    intro e
    have h1 := (h.own.block k hv).1
    have h2 := hr k e.symm
    omega
theorem DMade.mono {base base' : Nat} {w : World} {v : Value} {l : List Dv} (h : DMade base w v l) (hb : base' ≤ base) : DMade base' w v l := by
  refine ⟨⟨⟨h.1.1.1, ?_⟩, h.1.2⟩, fun x hx => ⟨(h.2 x hx).1.mono hb, (h.2 x hx).2.mono hb⟩⟩
  rcases h.1.1.2 with hn | ⟨g, cap, cur, hv, hbg, r⟩
  · exact .inl hn
  · exact .inr ⟨g, cap, cur, hv, Nat.le_trans hb hbg, r⟩
/-- append of one deed. -/
theorem DMade.more {base : Nat} {w w' : World} {v v' : Value} {l : List Dv} {x : Dv} (h : DMade base w v l) (he : EOwn base w x.ev x.d.x.es) (hr : ROwn base w x.rv x.d.x.rs) (ho : DOwn base w' v' (l ++ [x])) (hg : w.grownBy w' v.ownBlock) : DMade base w' v' (l ++ [x]) := by
  refine ⟨ho.1, fun y hy => ?_⟩
  rcases List.mem_append.1 hy with h' | h'
  · exact ⟨(h.2 y h').1.beside h.1.1 hg, (h.2 y h').2.beside h.1.1 hg⟩
  · rw [List.mem_singleton] at h'
    subst h'
    exact ⟨he.beside h.1.1 hg, hr.beside h.1.1 hg⟩
/-- One deed in a new block. -/
theorem deed_new (w : World) (x : Dv) (h : x.Wf) (hr : x.Reads w) (cs : Array Value) (t : TypeId) (hcs : cs.toList = x.cells) : DRow (w.alloc (.cells cs t)) (.slice (some ⟨w.heap.size, 0, none⟩) 1 1) [x] := by
  refine ⟨⟨⟨_, 1, rfl, Nat.le_refl _, by unfold maxLen; omega, by simp, fun a ha i r hr j u hu => ?_⟩, fun r hr => by rw [List.mem_singleton] at hr; subst hr; exact h⟩, fun r hr' => by rw [List.mem_singleton] at hr'; subst hr'; exact hr.below (kl_alloc _ _)⟩
  obtain rfl := Option.some.inj ha
  have hi : i = 0 := by have := (List.getElem?_eq_some_iff.1 hr).1; simpa using this
  subst hi
  simp at hr
  subst hr
  rw [Addr.add_lit, (Blk.new w cs t).cell, ← Array.getElem?_toList, hcs]
  simpa using hu

/-- Answers such deeds, and an error. -/
def SaysL (r : List Dd × Int) (w : World) (e : Ending) (w' : World) : Prop := ∃ (u : Value) (ds : List Dv), e = .returned (.tuple #[u, .int .i64 r.2]) ∧ DMade w.heap.size w' u ds ∧ ds.map Dv.d = r.1 ∧ Below w.heap.size w w'

set_option maxHeartbeats 8000000 in
theorem Parse_any (w : World) (b : Value) (xs : List Int) (hr : Row w b xs) (hx : xs.length ≤ 1000000) :
    Calls Try.prog 11 #[b] w (SaysL (parseS xs) w) := by
  obtain ⟨ao, cap, hv⟩ := hr.of_len
  have HFin := hide (fun (u : Value) (ds : List Dv) (er : Int) (e : Ending) (w' : World) (h1 : e = .returned (.tuple #[u, .int .i64 er])) (h2 : DMade w.heap.size w' u ds) (h3 : (ds.map Dv.d, er) = parseS xs) (h4 : Below w.heap.size w w') => (show SaysL (parseS xs) w e w' from ⟨u, ds, by rw [← h3]; exact h1, h2, by rw [← h3], h4⟩))
  have HPS := hide (show parseS xs = appD [] (unS (xs.length + 1) (xs.drop 0)) by rw [app_nil (un_err _ _)]; rfl)
  generalize hG : SaysL (parseS xs) w = G at *
  clear hG
  have HX := hide hx
  have HR := hide hr
  obtain ⟨len, hL⟩ : ∃ n, xs.length = n := ⟨_, rfl⟩
  have HL := hide hL
  rw [hL] at hv
  have hlm : len ≤ 1000000 := by omega
  subst hv
  clear hr hx hL
  have hba := kl_alloc w (.cells #[.slice ao len cap, .int .i64 0, .int .i64 0] 53)
  have HB0 := hide (show RdQ _ _ (.slice ao len cap) ⟨((0 : Nat) : Int), false⟩ from Blk.new w #[.slice ao len cap, .int .i64 0, .int .i64 0] 53)
  have HG0 := hide hba
  have HZ0 := hide (show (w.alloc (.cells #[.slice ao len cap, .int .i64 0, .int .i64 0] 53)).heap.size = w.heap.size + 1 by simp)
  clear hba
  go_enter Try.func11, Try.ntmps11
  go_wp2
  generalize w.alloc (.cells #[.slice ao len cap, .int .i64 0, .int .i64 0] 53) = W0 at *
  have HRW := hide (fun w' (hg : W0.grownBy w' (some w.heap.size)) => HR.out.below (show Below w.heap.size w w' from ⟨hg.os.trans HG0.out.os, hg.tape.trans HG0.out.tape, hg.output.trans HG0.out.output, Nat.le_trans HG0.out.size hg.size, fun k hk => (hg.block k (by have := HZ0.out; omega) (by simp; omega)).trans (HG0.out.block k hk)⟩))
  generalize hA : w.heap.size = P at *
  have HAE := hide hA
  clear hA HR
  go_loopw [4] (fun u wr => ∃ (a n : Nat) (ds : List Dv), Hid (a ≤ xs.length) ∧ Hid (xs.length < a + n) ∧ Hid (ds.length ≤ a) ∧ Hid (RdQ wr P (.slice ao len cap) ⟨(a : Int), false⟩) ∧ Hid (W0.grownBy wr (some P)) ∧ Hid (DMade (P + 1) wr u ds) ∧ Hid (parseS xs = appD (ds.map Dv.d) (unS n (xs.drop a)))) (fun u wr => len - (intOf ((wr.cell? ⟨P, 1, none⟩).getD (.int .i64 0))).toNat)
  case atStart => exact ⟨0, xs.length + 1, [], hide (Nat.zero_le _), hide (by omega), hide (by simp), HB0, hide (World.grownBy.refl _ _), hide (DMade.nil _ _), HPS⟩
  case round =>
    obtain ⟨a, n, ds, HA, HN, HDL, HB, HG, HD, HP⟩ := hrel
    have c1 : wr.cell? ⟨P, 1, none⟩ = some (.int .i64 (a : Int)) := HB.out.cell 1
    by_cases hal : a < len
    · have hal' : (a : Int) < len := by omega
      have hax : a < xs.length := by rw [HL.out]; exact hal
      have HC := hide (PDeed_any wr P (.slice ao len cap) xs a HB.out (fun w' hg => HRW.out w' (grown_trans HG.out hg)) hax HX.out)
      have HU := hide (fun m x at' er (h : NextD xs a x at' er) => un_step (n := m) hax h)
      have HSZ := hide (show P + 1 ≤ wr.heap.size by rw [← HZ0.out]; exact HG.out.size)
      go_wp2_with fail
      refine HC.out.mono ?_
      rintro e w1 ⟨x, at', er, rfl, hwf, hev, hrv, hq, hg, hnx⟩
      have HNX := hide (HU.out (n - 1) _ _ _ hnx)
      obtain ⟨⟨kk, nn, ⟨no, kind, links, size, t, es, rs⟩⟩, ev, rv⟩ := x
      dsimp only at hev hrv
      obtain ⟨ea, ec, hea⟩ := hev.row.of_len
      obtain ⟨ra, rc, hra⟩ := hrv.row.of_len
      generalize es.length = le at hea
      generalize rs.length = lr at hra
      subst hea hra
      have HWF := hide hwf
      have HEV := hide (hev.mono HSZ.out)
      have HRV := hide (hrv.mono HSZ.out)
      have HB1 := hide hq
      have HG1 := hide (grown_trans HG.out hg)
      have HD1 := hide (HD.out.grown hg (fun k e => by cases e; omega))
      have HSZ1 := hide (Nat.le_trans HSZ.out hg.size)
      clear hwf hev hrv hq hg hnx HC HU HB HG HD HSZ
      have hba := kl_alloc w1 (.cells #[.int .i64 kk, .int .i64 nn, .int .i64 no, .int .i64 kind, .int .i64 links, .int .i64 size, .string t, .slice ea le ec, .slice ra lr rc] 38)
      have HDB := hide (Blk.new w1 #[.int .i64 kk, .int .i64 nn, .int .i64 no, .int .i64 kind, .int .i64 links, .int .i64 size, .string t, .slice ea le ec, .slice ra lr rc] 38)
      have HB2 := hide (kl_blk hba HB1.out)
      have HG2 := hide (grown_trans HG1.out (below_grown hba (some P)))
      have HD2 := hide (HD1.out.kept hba)
      have HEV2 := hide (HEV.out.kept hba)
      have HRV2 := hide (HRV.out.kept hba)
      have HSZ2 := hide (Nat.le_trans HSZ1.out hba.size)
      clear hba HB1 HG1 HD1 HEV HRV
      simp only [Dv.cells]
      go_upto_region 5 with fail
      generalize w1.alloc (.cells #[.int .i64 kk, .int .i64 nn, .int .i64 no, .int .i64 kind, .int .i64 links, .int .i64 size, .string t, .slice ea le ec, .slice ra lr rc] 38) = V at *
      generalize hD : w1.heap.size = D at *
      clear hD HSZ1
      have p2 : V.cell? ⟨P, 2, none⟩ = some (.int .i64 er) := HB2.out.cell 2
      by_cases her : er = 0
      · subst her
        obtain ⟨a', ha1, ha2, ha3, ha4⟩ := HNX.out.2 rfl
        have HHA := hide (And.intro ha2 (And.intro ha3 ha4))
        subst ha1
        clear ha2 ha3 ha4
        have e0 : V.cell? ⟨D, 0, none⟩ = some (.int .i64 kk) := HDB.out.cell 0
        have e1 : V.cell? ⟨D, 1, none⟩ = some (.int .i64 nn) := HDB.out.cell 1
        have e2 : V.cell? ⟨D, 2, none⟩ = some (.int .i64 no) := HDB.out.cell 2
        have e3 : V.cell? ⟨D, 3, none⟩ = some (.int .i64 kind) := HDB.out.cell 3
        have e4 : V.cell? ⟨D, 4, none⟩ = some (.int .i64 links) := HDB.out.cell 4
        have e5 : V.cell? ⟨D, 5, none⟩ = some (.int .i64 size) := HDB.out.cell 5
        have e6 : V.cell? ⟨D, 6, none⟩ = some (.string t) := HDB.out.cell 6
        have e7 : V.cell? ⟨D, 7, none⟩ = some (.slice ea le ec) := HDB.out.cell 7
        have e8 : V.cell? ⟨D, 8, none⟩ = some (.slice ra lr rc) := HDB.out.cell 8
        have HRow := hide (show DRow (V.alloc (.cells #[.int .i64 kk, .int .i64 nn, .int .i64 no, .int .i64 kind, .int .i64 links, .int .i64 size, .string t, .slice ea le ec, .slice ra lr rc] 38)) (.slice (some ⟨V.heap.size, 0, none⟩) 1 1) [⟨⟨kk, nn, ⟨no, kind, links, size, t, es, rs⟩⟩, .slice ea le ec, .slice ra lr rc⟩] from deed_new V _ HWF.out ⟨HEV2.out.row, HRV2.out.row⟩ _ _ rfl)
        have hba := kl_alloc V (.cells #[.int .i64 kk, .int .i64 nn, .int .i64 no, .int .i64 kind, .int .i64 links, .int .i64 size, .string t, .slice ea le ec, .slice ra lr rc] 38)
        have HB3 := hide (kl_blk hba HB2.out)
        have HG3 := hide (grown_trans HG2.out (below_grown hba (some P)))
        have HD3 := hide (HD2.out.kept hba)
        have HEV3 := hide (HEV2.out.kept hba)
        have HRV3 := hide (HRV2.out.kept hba)
        have HSZ3 := hide (Nat.le_trans HSZ2.out hba.size)
        have HF := hide (show ds.length + [(⟨⟨kk, nn, ⟨no, kind, links, size, t, es, rs⟩⟩, .slice ea le ec, .slice ra lr rc⟩ : Dv)].length ≤ 1000000000000 by have h1 := HDL.out; have h2 := HA.out; have h3 := HX.out; simp; omega)
        clear hba
        go_wp2_with (at_builtin; refine wpList_append_deeds rfl _ _ rfl (P + 1) _ _ ds [⟨⟨kk, nn, ⟨no, kind, links, size, t, es, rs⟩⟩, .slice ea le ec, .slice ra lr rc⟩] rfl HD3.out.own rfl HRow.out (by intro y hy; rw [List.mem_singleton] at hy; subst hy; exact ⟨.inr (HEV3.out.apart _), .inr (HRV3.out.apart _)⟩) HF.out HSZ3.out ?_)
        intro u4 w4 ho4 hg4
        have HD4 := hide (HD3.out.more HEV3.out HRV3.out ho4 hg4)
        have HB4 := hide (show RdQ w4 P (.slice ao len cap) ⟨(a' : Int), false⟩ from Blk.kept HB3.out hg4 (fun e => by have h1 := (HD3.out.own.block P e.symm).1; omega))
        have HG4 := hide (grown_mix HG3.out hg4 (fun j e => by have h1 := (HD3.out.own.block j e).1; have h2 := HZ0.out; omega))
        have c4 : w4.cell? ⟨P, 1, none⟩ = some (.int .i64 (a' : Int)) := HB4.out.cell 1
        have HQ4 := hide (show parseS xs = appD ((ds ++ [(⟨⟨kk, nn, ⟨no, kind, links, size, t, es, rs⟩⟩, .slice ea le ec, .slice ra lr rc⟩ : Dv)]).map Dv.d) (unS (n - 1) (xs.drop a')) by
          have h1 := HP.out
          have h2 := HHA.out.2.2
          have h3 : n - 1 + 1 = n := by have := HN.out; have := HA.out; omega
          rw [h3] at h2
          rw [h1, h2, app_cons, List.map_append]
          rfl)
        clear ho4 hg4 e0 e1 e2 e3 e4 e5 e6 e7 e8
        have HM := hide (show len - a' < len - a by have h1 := HHA.out.1; omega)
        go_wp2
        exact ⟨⟨a', n - 1, _, hide HHA.out.2.1, hide (by have h1 := HN.out; have h2 := HHA.out.1; omega), hide (by have h1 := HDL.out; have h2 := HHA.out.1; simp; omega), HB4, HG4, HD4, HQ4⟩, by rw [c1, c4]; simp only [Option.getD_some, intOf]; exact HM.out⟩
      · have hne : (er == 0) = false := by simpa using her
        have hne' : (er != 0) = true := by simpa using her
        have HE := hide (show ([], er) = parseS xs by
          have h1 := HP.out
          have h2 := HNX.out.1 her
          have h3 : n - 1 + 1 = n := by have := HN.out; have := HA.out; omega
          rw [h3] at h2
          rw [h1, h2]
          unfold appD
          rw [if_neg her])
        clear her
        have HBL := hide (show Below P w V from ⟨HG2.out.os.trans HG0.out.os, HG2.out.tape.trans HG0.out.tape, HG2.out.output.trans HG0.out.output, Nat.le_trans HG0.out.size HG2.out.size, fun k hk => (HG2.out.block k (by have := HZ0.out; omega) (by simp; omega)).trans (HG0.out.block k hk)⟩)
        go_wp2_with fail
        go_region
        all_goals go_wp2
        all_goals exact HFin.out _ [] _ _ _ rfl (DMade.nil _ _) HE.out (HBL.out.trans ((kl_drew _).mono (by have := HSZ2.out; omega)))
    · have hal2 : ¬ ((a : Int) < len) := by omega
      have HE := hide (show (ds.map Dv.d, (0 : Int)) = parseS xs by
        have h1 := HP.out
        obtain ⟨m, rfl⟩ : ∃ m, n = m + 1 := ⟨n - 1, by have := HN.out; have := HA.out; omega⟩
        have ha : a = xs.length := by have := HA.out; rw [HL.out] at this ⊢; omega
        rw [h1, ha, List.drop_length, un_nil]
        simp [appD])
      have HBL := hide (show Below P w wr from ⟨HG.out.os.trans HG0.out.os, HG.out.tape.trans HG0.out.tape, HG.out.output.trans HG0.out.output, Nat.le_trans HG0.out.size HG.out.size, fun k hk => (HG.out.block k (by have := HZ0.out; omega) (by simp; omega)).trans (HG0.out.block k hk)⟩)
      go_wp2
      exact HFin.out _ ds _ _ _ rfl (HD.out.mono (Nat.le_succ _)) HE.out HBL.out
end Go.Proofs.Ytgkmgpjhpplkiaa

/-
  The laws of pack: awake.
-/
namespace Go.Proofs.Ytgkmgpjhpplkiaa
open Go.RowKit
set_option linter.unusedVariables false
set_option maxRecDepth 100000

theorem DMade.row {base : Nat} {w : World} {v : Value} {l : List Dv} (h : DMade base w v l) : DRow w v l := h.own.row
theorem parse_awake : parseS (packL [⟨4, 5, noI⟩]) = ([⟨4, 5, noI⟩], 0) := parse_pack (by intro d hd; rw [List.mem_singleton] at hd; subst hd; exact .inl ⟨by simp, by unfold In64; simp, rfl⟩)

set_option maxHeartbeats 4000000 in
theorem awake_any (w : World) : Calls Try.prog 9 #[] w (SaysB true w) := by
  have hw0 : DRow (w.alloc (.cells #[.int .i64 4, .int .i64 5, .int .i64 0, .int .i64 0, .int .i64 0, .int .i64 0, .string ByteArray.empty, .slice none 0 0, .slice none 0 0] 38)) (.slice (some ⟨w.heap.size, 0, none⟩) 1 1) [⟨⟨4, 5, noI⟩, .slice none 0 0, .slice none 0 0⟩] :=
    deed_new w _ (dv_num (wf_i64 (by decide) (by decide)) (wf_i64 (by decide) (by decide))) ⟨ERow.nil w, RRow.nil w⟩ _ _ rfl
  have HB0 := hide (kl_alloc w (.cells #[.int .i64 4, .int .i64 5, .int .i64 0, .int .i64 0, .int .i64 0, .int .i64 0, .string ByteArray.empty, .slice none 0 0, .slice none 0 0] 38))
  have hC := Deeds_any _ _ _ hw0 (by show (packL [⟨4, 5, noI⟩]).length ≤ 1000000; decide)
  have hp := parse_awake
  clear hw0
  obtain ⟨X, hX⟩ : ∃ X, X = packL [⟨4, 5, noI⟩] := ⟨_, rfl⟩
  have hXl : X.length ≤ 1000000 := by rw [hX]; decide
  rw [← hX] at hp
  rw [show packL ([(⟨⟨4, 5, noI⟩, .slice none 0 0, .slice none 0 0⟩ : Dv)].map Dv.d) = X from hX.symm] at hC
  have HC := hide hC
  clear hX hC
  have HP := hide hp
  have HL := hide hXl
  clear hp hXl
  go_enter Try.func9, Try.ntmps9
  go_wp2_with fail
  refine HC.out.mono ?_
  rintro e w1 ⟨u1, rfl, ho1, hb1⟩
  have HB1 := hide (kl_step hb1 HB0.out)
  have HC2 := hide (Parse_any w1 u1 X ho1.row HL.out)
  rw [HP.out] at HC2
  clear HC HB0 ho1 hb1
  go_wp2_with fail
  refine HC2.out.mono ?_
  rintro e w2 ⟨u2, ds, rfl, hd, hm, hb2⟩
  have HB2 := hide (kl_step hb2 HB1.out)
  obtain ⟨x, hx⟩ : ∃ x, ds = [x] := by
    have := congrArg List.length hm
    simp at this
    exact List.length_eq_one_iff.1 this
  subst hx
  simp at hm
  have hlen := hd.row.lenRun
  simp only [List.length_singleton] at hlen
  obtain ⟨b, o, hlt, hidx, hc⟩ := hd.row.idx 0 (by simp)
  have c1 : w2.cell? ⟨b, o + 1, none⟩ = some (.int .i64 5) := hc 1 _ (by simp [hm, Dv.cells])
  have hidx0 : ∀ w', (Instr.indexAt 22 u2 (.int .i64 0)).run Try.prog w' = .ok (.pointer (some ⟨b, o, none⟩)) w' := hidx
  clear hc hm hd hb2 HC2 hidx
  go_wp2
  (try go_ret)
  exact ⟨rfl, HB2.out⟩
end Go.Proofs.Ytgkmgpjhpplkiaa

/-
  Arguments of any shape, opened, with their bulk: for statements that speak of what is of bulk at most so much.
-/
namespace Go.Proofs.Ytgkmgpjhpplkiaa
open Go.RowKit Go.ChangeShapes Go.WideShapes Go.Deep
set_option linter.unusedVariables false

/-- Whatever reads as a value of type t has cells of which R holds, with its bulk. -/
def OpensN (P : Program) (w : World) (t : TypeId) (R : List Value → Nat → Prop) : Prop :=
  ∀ (H : Type) (enc : TypeId × Value → H) (fuel : Nat) (cs : List Value) (x : DataW H × List MemPlace), DataW.trod enc P w 0 (fun _ => true) true fuel t cs = some x → R cs (Rows.uptoBulk x.1)

theorem bulk_pos {H : Type} (d : DataW H) : 1 ≤ Rows.uptoBulk d := by
  cases d with
  | lit l => cases l <;> simp [Rows.uptoBulk]
  | _ => simp [Rows.uptoBulk]
theorem bulk_sum {H : Type} {α : Type} (wt : α → Nat) (q : Nat → α) (D : Nat → DataW H) (l : List Nat) (h : ∀ i ∈ l, wt (q i) ≤ Rows.uptoBulk (D i)) : ((l.map q).map wt).sum ≤ Rows.uptoBulkAll (l.map D) := by
  induction l with
  | nil => simp
  | cons i r ih =>
    have h1 := h i (List.mem_cons_self ..)
    have h2 := ih fun j hj => h j (List.mem_cons_of_mem _ hj)
    simp only [List.map_cons, List.sum_cons, Rows.uptoBulkAll]
    omega

section
variable {P : Program} {w : World} {t : TypeId}

theorem OpensN.mono {R R' : List Value → Nat → Prop} (h : OpensN P w t R) (hr : ∀ cs n, R cs n → R' cs n) : OpensN P w t R' := fun H enc fuel cs x hx => hr cs _ (h H enc fuel cs x hx)
/-- What is opened with no word of bulk: its bulk is 1 at least. -/
theorem Opens.toN {R : List Value → Prop} (h : Opens P w t R) : OpensN P w t (fun cs n => R cs ∧ 1 ≤ n) := fun H enc fuel cs x hx => ⟨h H enc fuel cs x hx, bulk_pos _⟩
theorem opensN_string (ht : P.underlying t = some .string) : OpensN P w t (fun cs n => ∃ s : ByteArray, cs = [.string s] ∧ s.size ≤ maxLen ∧ s.size + 1 ≤ n) := by
  intro H enc fuel cs x h
  obtain ⟨s, rfl, hs, hr⟩ := DataW.trod_string ht h
  refine ⟨s, rfl, by assumption, ?_⟩
  subst hs
  simp only [Rows.uptoBulk, Array.length_toList]
  exact Nat.le_refl _

theorem opensN_slice {e : TypeId} {α : Type} [Inhabited α] (ht : P.underlying t = some (.slice e)) (f : α → List Value) (Q : α → Prop) (wt : α → Nat) (he : OpensN P w e (fun cs n => ∃ x, cs = f x ∧ Q x ∧ wt x ≤ n)) :
    OpensN P w t (fun cs n => ∃ v xs, cs = [v] ∧ Seq w (P.cellsOf e) f v xs ∧ (∀ x ∈ xs, Q x) ∧ (xs.map wt).sum + 1 ≤ n) := by
  intro H enc fuel cs x h
  rcases open_slice ht h with ⟨rfl, rfl⟩ | ⟨a, len, cap, m, n, D, Pl, rfl, _, hl, hm, hmm, rfl, hx⟩
  · exact ⟨_, [], rfl, ⟨none, 0, rfl, Nat.le_refl _, Nat.zero_le _, fun _ => rfl, fun a h => by cases h⟩, fun x h => (by cases h), by simp [Rows.uptoBulk]⟩
  · simp only [if_true] at hmm
    subst hmm
    have each : ∀ i, i < len → ∃ y : α, (∀ j u, (f y)[j]? = some u → w.cell? (a.add (i * P.cellsOf e + j)) = some u) ∧ Q y ∧ wt y ≤ Rows.uptoBulk (D i) := by
      intro i hi
      obtain ⟨cs', h1, h2⟩ := hx i (by omega)
      obtain ⟨y, rfl, hy⟩ := he H enc n cs' _ h2
      obtain ⟨_, hlen, hcell⟩ := World.cells?_some h1
      refine ⟨y, fun j u hu => ?_, hy⟩
      have hj : j < P.cellsOf e := by rw [← hlen]; exact (List.getElem?_eq_some_iff.1 hu).1
      have := hcell j hj
      rw [add_add] at this
      rw [this, hu]
    obtain ⟨q, hq⟩ := choose_lt each
    refine ⟨_, (List.range len).map q, rfl, ⟨some a, m, by simp, by simpa using hl, hm, by simp, ?_⟩, ?_, ?_⟩
    · intro a' ha i x hx' j u hu
      obtain rfl := Option.some.inj ha
      obtain ⟨hi, rfl⟩ : i < len ∧ q i = x := by
        rw [List.getElem?_map] at hx'
        by_cases hi : i < len
        · rw [List.getElem?_range hi] at hx'
          exact ⟨hi, by simpa using hx'⟩
        · rw [List.getElem?_eq_none (by simp; omega)] at hx'
          cases hx'
      exact (hq i hi).1 j u hu
    · intro x hx'
      obtain ⟨i, hi, rfl⟩ := List.mem_map.1 hx'
      exact (hq i (List.mem_range.1 hi)).2.1
    · have := bulk_sum wt q D (List.range len) fun i hi => (hq i (List.mem_range.1 hi)).2.2
      simp only [Rows.uptoBulk]
      omega
end
end Go.Proofs.Ytgkmgpjhpplkiaa

/-
  Deeds that come in, opened with their bulk.
-/
namespace Go.Proofs.Ytgkmgpjhpplkiaa
open Go.RowKit
set_option linter.unusedVariables false
set_option maxRecDepth 100000

def wtE (e : En) : Nat := e.s.size + 3
def wtR (r : Rn) : Nat := 4
def wtI (x : Ino) : Nat := x.t.size + (x.es.map wtE).sum + (x.rs.map wtR).sum + 8
def wtD (d : Dd) : Nat := wtI d.x + 3
def wtL (l : List Dd) : Nat := (l.map wtD).sum
theorem wtR_sum (l : List Rn) : (l.map wtR).sum = 4 * l.length := by
  induction l with
  | nil => rfl
  | cons r t ih => rw [List.map_cons, List.sum_cons, ih, List.length_cons]; unfold wtR; omega

theorem opensN_entry (w : World) : OpensN Try.prog w 49 (fun cs n => ∃ x : En, cs = x.cells ∧ x.Wf ∧ wtE x ≤ n) := by
  have hI : ∀ w : World, OpensN Try.prog w 3 _ := fun w => (opens_int Try.underlying3).toN
  have hS : ∀ w : World, OpensN Try.prog w 9 _ := fun w => opensN_string Try.underlying9
  intro H enc fuel cs x h
  obtain ⟨xs, n, _, rfl, hl, hlen, hf⟩ := DataW.trod_struct Try.underlying49 h
  have c2 : Try.prog.cellsOf 49 = 2 := by kernel_rfl
  have ci : Try.prog.cellsOf 3 = 1 := by kernel_rfl
  have ct : Try.prog.cellsOf 9 = 1 := by kernel_rfl
  rw [c2] at hl
  match xs, hlen, cs, hl with
  | [y0, y1], _, [v0, v1], _ =>
    have g0 := hf 0 _ rfl
    have g1 := hf 1 _ rfl
    simp [ci, ct] at g0 g1
    obtain ⟨a0, h0, p0, q0⟩ := hS w _ _ _ _ _ g0
    obtain ⟨⟨a1, h1, p1⟩, q1⟩ := hI w _ _ _ _ _ g1
    simp at h0 h1
    subst h0 h1
    exact ⟨⟨a0, a1⟩, rfl, ⟨p0, p1⟩, by simp only [List.map, Rows.uptoBulk, Rows.uptoBulkAll, wtE]; omega⟩
theorem opensN_ents (w : World) : OpensN Try.prog w 33 (fun cs n => ∃ v xs, cs = [v] ∧ ERow w v xs ∧ (xs.map wtE).sum + 1 ≤ n) := by
  have h := opensN_slice Try.underlying33 En.cells En.Wf wtE (opensN_entry w)
  rw [show Try.prog.cellsOf 49 = 2 from by kernel_rfl] at h
  exact h.mono fun cs n ⟨v, xs, h1, h2, h3, h4⟩ => ⟨v, xs, h1, ⟨h2, h3⟩, h4⟩
theorem opensN_run (w : World) : OpensN Try.prog w 67 (fun cs n => ∃ x : Rn, cs = x.cells ∧ x.Wf ∧ wtR x ≤ n) := by
  have hI : ∀ w : World, OpensN Try.prog w 3 _ := fun w => (opens_int Try.underlying3).toN
  intro H enc fuel cs x h
  obtain ⟨xs, n, _, rfl, hl, hlen, hf⟩ := DataW.trod_struct Try.underlying67 h
  have c3 : Try.prog.cellsOf 67 = 3 := by kernel_rfl
  have ci : Try.prog.cellsOf 3 = 1 := by kernel_rfl
  rw [c3] at hl
  match xs, hlen, cs, hl with
  | [y0, y1, y2], _, [v0, v1, v2], _ =>
    have g0 := hf 0 _ rfl
    have g1 := hf 1 _ rfl
    have g2 := hf 2 _ rfl
    simp [ci] at g0 g1 g2
    obtain ⟨⟨a0, h0, p0⟩, q0⟩ := hI w _ _ _ _ _ g0
    obtain ⟨⟨a1, h1, p1⟩, q1⟩ := hI w _ _ _ _ _ g1
    obtain ⟨⟨a2, h2, p2⟩, q2⟩ := hI w _ _ _ _ _ g2
    simp at h0 h1 h2
    subst h0 h1 h2
    exact ⟨⟨a0, a1, a2⟩, rfl, ⟨p0, p1, p2⟩, by simp only [List.map, Rows.uptoBulk, Rows.uptoBulkAll, wtR]; omega⟩
theorem opensN_runs (w : World) : OpensN Try.prog w 34 (fun cs n => ∃ v xs, cs = [v] ∧ RRow w v xs ∧ (xs.map wtR).sum + 1 ≤ n) := by
  have h := opensN_slice Try.underlying34 Rn.cells Rn.Wf wtR (opensN_run w)
  rw [show Try.prog.cellsOf 67 = 3 from by kernel_rfl] at h
  exact h.mono fun cs n ⟨v, xs, h1, h2, h3, h4⟩ => ⟨v, xs, h1, ⟨h2, h3⟩, h4⟩
theorem opensN_inode (w : World) : OpensN Try.prog w 36 (fun cs n => ∃ no kind links size t ev rv es rs, cs = (icells no kind links size t ev rv).toList ∧ InoOk w no kind links size t ev rv es rs ∧ wtI ⟨no, kind, links, size, t, es, rs⟩ ≤ n) := by
  have hI : ∀ w : World, OpensN Try.prog w 3 _ := fun w => (opens_int Try.underlying3).toN
  have hS : ∀ w : World, OpensN Try.prog w 9 _ := fun w => opensN_string Try.underlying9
  intro H enc fuel cs x h
  obtain ⟨xs, n, _, rfl, hl, hlen, hf⟩ := DataW.trod_struct Try.underlying36 h
  have c7 : Try.prog.cellsOf 36 = 7 := by kernel_rfl
  have ci : Try.prog.cellsOf 3 = 1 := by kernel_rfl
  have ct : Try.prog.cellsOf 9 = 1 := by kernel_rfl
  have ce : Try.prog.cellsOf 33 = 1 := by kernel_rfl
  have cr : Try.prog.cellsOf 34 = 1 := by kernel_rfl
  rw [c7] at hl
  match xs, hlen, cs, hl with
  | [y0, y1, y2, y3, y4, y5, y6], _, [v0, v1, v2, v3, v4, v5, v6], _ =>
    have g0 := hf 0 _ rfl
    have g1 := hf 1 _ rfl
    have g2 := hf 2 _ rfl
    have g3 := hf 3 _ rfl
    have g4 := hf 4 _ rfl
    have g5 := hf 5 _ rfl
    have g6 := hf 6 _ rfl
    simp [ci, ct, ce, cr] at g0 g1 g2 g3 g4 g5 g6
    obtain ⟨⟨a0, h0, p0⟩, q0⟩ := hI w _ _ _ _ _ g0
    obtain ⟨⟨a1, h1, p1⟩, q1⟩ := hI w _ _ _ _ _ g1
    obtain ⟨⟨a2, h2, p2⟩, q2⟩ := hI w _ _ _ _ _ g2
    obtain ⟨⟨a3, h3, p3⟩, q3⟩ := hI w _ _ _ _ _ g3
    obtain ⟨a4, h4, p4, q4⟩ := hS w _ _ _ _ _ g4
    obtain ⟨a5, es, h5, p5, q5⟩ := opensN_ents w _ _ _ _ _ g5
    obtain ⟨a6, rs, h6, p6, q6⟩ := opensN_runs w _ _ _ _ _ g6
    simp at h0 h1 h2 h3 h4 h5 h6
    subst h0 h1 h2 h3 h4 h5 h6
    exact ⟨a0, a1, a2, a3, a4, _, _, es, rs, rfl, ⟨p0, p1, p2, p3, p4, p5, p6⟩, by simp only [List.map, Rows.uptoBulk, Rows.uptoBulkAll, wtI] at *; omega⟩
theorem opensN_deed (w : World) : OpensN Try.prog w 38 (fun cs n => ∃ x : Dv, cs = x.cells ∧ (x.Wf ∧ x.Reads w) ∧ wtD x.d ≤ n) := by
  have hI : ∀ w : World, OpensN Try.prog w 3 _ := fun w => (opens_int Try.underlying3).toN
  intro H enc fuel cs x h
  obtain ⟨xs, n, _, rfl, hl, hlen, hf⟩ := DataW.trod_struct Try.underlying38 h
  have c9 : Try.prog.cellsOf 38 = 9 := by kernel_rfl
  have ci : Try.prog.cellsOf 3 = 1 := by kernel_rfl
  have c7 : Try.prog.cellsOf 36 = 7 := by kernel_rfl
  rw [c9] at hl
  match xs, hlen, cs, hl with
  | [y0, y1, y2], _, [v0, v1, v2, v3, v4, v5, v6, v7, v8], _ =>
    have g0 := hf 0 _ rfl
    have g1 := hf 1 _ rfl
    have g2 := hf 2 _ rfl
    simp [ci, c7] at g0 g1 g2
    obtain ⟨⟨a0, h0, p0⟩, r0⟩ := hI w _ _ _ _ _ g0
    obtain ⟨⟨a1, h1, p1⟩, r1⟩ := hI w _ _ _ _ _ g1
    obtain ⟨no, kind, links, size, t, ev, rv, es, rs, h2, ⟨q0, q1, q2, q3, q4, q5, q6⟩, r2⟩ := opensN_inode w _ _ _ _ _ g2
    unfold icells at h2
    simp at h0 h1 h2
    obtain ⟨rfl, rfl, rfl, rfl, rfl, rfl, rfl⟩ := h2
    subst h0 h1
    exact ⟨⟨⟨a0, a1, ⟨no, kind, links, size, t, es, rs⟩⟩, _, _⟩, rfl, ⟨⟨p0, p1, q0, q1, q2, q3, q4, q5.oneCell, q6.oneCell⟩, q5, q6⟩, by simp only [List.map, Rows.uptoBulk, Rows.uptoBulkAll, wtD] at *; omega⟩
theorem opensN_deeds (w : World) : OpensN Try.prog w 22 (fun cs n => ∃ v xs, cs = [v] ∧ DRow w v xs ∧ wtL (xs.map Dv.d) + 1 ≤ n) := by
  have h := opensN_slice Try.underlying22 Dv.cells (fun x => x.Wf ∧ x.Reads w) (fun x => wtD x.d) (opensN_deed w)
  rw [show Try.prog.cellsOf 38 = 9 from by kernel_rfl] at h
  exact h.mono fun cs n ⟨v, xs, h1, h2, h3, h4⟩ => ⟨v, xs, h1, ⟨⟨h2, fun x hx => (h3 x hx).1⟩, fun x hx => (h3 x hx).2⟩, by unfold wtL; rw [List.map_map]; exact h4⟩
end Go.Proofs.Ytgkmgpjhpplkiaa

/-
  garretlaw13's few: are these deeds not too much?
-/
namespace Go.Proofs.Ytgkmgpjhpplkiaa
open Go.RowKit
set_option linter.unusedVariables false
set_option maxRecDepth 100000

def sizE (e : En) : Nat := 10 + e.s.size
def sizD (d : Dd) : Nat := 10 + d.x.t.size + d.x.rs.length + (d.x.es.map sizE).sum
def sizL (l : List Dd) : Nat := (l.map sizD).sum
theorem sum_le {α : Type} (f g : α → Nat) (l : List α) (h : ∀ x ∈ l, f x ≤ 10 * g x) : (l.map f).sum ≤ 10 * (l.map g).sum := by
  induction l with
  | nil => simp
  | cons a t ih =>
    have h1 := h a (List.mem_cons_self ..)
    have h2 := ih fun x hx => h x (List.mem_cons_of_mem _ hx)
    simp only [List.map_cons, List.sum_cons]
    omega
theorem sizD_le (d : Dd) : sizD d ≤ 10 * wtD d := by
  have h1 := sum_le sizE wtE d.x.es fun e _ => by unfold sizE wtE; omega
  have h2 := wtR_sum d.x.rs
  unfold sizD wtD wtI
  omega
theorem sizL_le (l : List Dd) : sizL l ≤ 10 * wtL l := sum_le sizD wtD l fun d _ => sizD_le d
theorem sum_take {α : Type} [Inhabited α] (f : α → Nat) (l : List α) (k : Nat) (h : k < l.length) : ((l.take (k + 1)).map f).sum = ((l.take k).map f).sum + f (l.getD k default) := by
  rw [List.take_succ_eq_append_getElem h, List.map_append, List.sum_append]
  simp [List.getD, List.getElem?_eq_getElem h]
theorem sum_upto {α : Type} (f : α → Nat) (l : List α) (k : Nat) : ((l.take k).map f).sum ≤ (l.map f).sum := by
  have : (l.map f).sum = ((l.take k).map f).sum + ((l.drop k).map f).sum := by rw [← List.sum_append, ← List.map_append, List.take_append_drop]
  omega

set_option maxHeartbeats 8000000 in
theorem few_any (w : World) (v : Value) (xs : List Dv) (h : DRow w v xs) (hn : wtL (xs.map Dv.d) + 1 ≤ 1048576) :
    Calls Try.prog 8 #[v] w (SaysB (decide (sizL (xs.map Dv.d) ≤ 4000)) w) := by
  have hS := sizL_le (xs.map Dv.d)
  have hlen := h.lenRun
  have hlm := h.len
  unfold maxLen at hlm
  obtain ⟨f, hf⟩ : ∃ f : Dv → Nat, f = fun x => sizD x.d := ⟨_, rfl⟩
  have eS : sizL (xs.map Dv.d) = (xs.map f).sum := by unfold sizL; rw [List.map_map, hf]; rfl
  rw [eS] at hS ⊢
  have hmax : (xs.map f).sum ≤ 10485760 := by omega
  have HF := hide hf
  have HD := hide h
  clear h hn hS eS hf
  obtain ⟨len, hL⟩ : ∃ n, xs.length = n := ⟨_, rfl⟩
  have HL := hide hL
  simp only [hL] at hlen
  rw [hL] at hlm
  clear hL
  go_enter Try.func8, Try.ntmps8
  go_wp2
  go_loopw [3, 4] (fun n i wr => ∃ k s : Nat, k ≤ len ∧ i = .int .i64 k ∧ n = .int .i64 s ∧ Hid (s = ((xs.take k).map f).sum) ∧ Hid (Below w.heap.size w wr)) (fun _ i _ => len - (intOf i).toNat)
  case atStart => exact ⟨0, 0, Nat.zero_le _, rfl, rfl, hide (by simp), hide (Below.refl _ _)⟩
  case round =>
    obtain ⟨k, s, hk, rfl, rfl, HS, HB⟩ := hrel
    by_cases hlt : k < len
    · have hlt' : (k : Int) < len := by omega
      have hkx : k < xs.length := by rw [HL.out]; exact hlt
      obtain ⟨b, o, hbs, hidx, hc⟩ := (HD.out.below HB.out).idx k hkx
      have hsum := sum_take f xs k hkx
      have hup := sum_upto f xs (k + 1)
      have hrd := (HD.out.below HB.out).2 (xs.getD k default) (by rw [List.getD, List.getElem?_eq_getElem hkx]; exact List.getElem_mem hkx)
      have hwf := HD.out.1.2 (xs.getD k default) (by rw [List.getD, List.getElem?_eq_getElem hkx]; exact List.getElem_mem hkx)
      rw [← HS.out] at hsum
      generalize xs.getD k default = x at *
      rw [hsum] at hup
      have HN := hide hsum
      have efx : f x = sizD x.d := by rw [HF.out]
      rw [efx] at hup
      rw [efx] at HN
      obtain ⟨⟨kk, nn, ⟨no, kind, links, size, t, es, rs⟩⟩, ev, rv⟩ := x
      have ht := hwf.t
      simp only [maxLen] at ht
      obtain ⟨hre, hrr⟩ := hrd
      simp only [sizD] at hup HN
      dsimp only at hre hrr
      obtain ⟨ea, ec, hev⟩ := hre.of_len
      obtain ⟨ra, rc, hrv⟩ := hrr.of_len
      subst hev hrv
      have p2 : wr.cell? ⟨b, o + 2, none⟩ = some (.int .i64 no) := hc 2 _ rfl
      have p3 : wr.cell? ⟨b, o + 3, none⟩ = some (.int .i64 kind) := hc 3 _ rfl
      have p4 : wr.cell? ⟨b, o + 4, none⟩ = some (.int .i64 links) := hc 4 _ rfl
      have p5 : wr.cell? ⟨b, o + 5, none⟩ = some (.int .i64 size) := hc 5 _ rfl
      have p6 : wr.cell? ⟨b, o + 6, none⟩ = some (.string t) := hc 6 _ rfl
      have p7 : wr.cell? ⟨b, o + 7, none⟩ = some (.slice ea es.length ec) := hc 7 _ rfl
      have p8 : wr.cell? ⟨b, o + 8, none⟩ = some (.slice ra rs.length rc) := hc 8 _ rfl
      have hlr := hrr.lenRun
      have hle := hre.lenRun
      have hlem := hre.len
      unfold maxLen at hlem
      have hB1 := kl_alloc wr (.cells #[.int .i64 no, .int .i64 kind, .int .i64 links, .int .i64 size, .string t, .slice ea es.length ec, .slice ra rs.length rc] 36)
      have hBl := Blk.new wr #[.int .i64 no, .int .i64 kind, .int .i64 links, .int .i64 size, .string t, .slice ea es.length ec, .slice ra rs.length rc] 36
      have HRE := hide (hre.below hB1)
      have HB1 := hide (kl_step hB1 HB.out)
      have HBL := hide hBl
      have hsr := sum_upto sizE es
      have hse := sum_take sizE es
      have HAL := hide (show ((es.take es.length).map sizE).sum = (es.map sizE).sum by rw [List.take_length])
      clear hre hrr hc hwf hBl hB1 hsum efx ht
      generalize rs.length = lr at *
      obtain ⟨le, hLe⟩ : ∃ n, n = es.length := ⟨_, rfl⟩
      have HLE := hide hLe
      rw [← hLe] at hle hlem HBL HRE HB1 HAL p7
      clear hLe
      go_upto_region 6 with fail
      generalize wr.alloc (.cells #[.int .i64 no, .int .i64 kind, .int .i64 links, .int .i64 size, .string t, .slice ea le ec, .slice ra lr rc] 36) = V at *
      generalize wr.heap.size = g at *
      clear p2 p3 p4 p5 p6 p7 p8
      have q4 : V.cell? ⟨g, 4, none⟩ = some (.string t) := HBL.out.cell 4
      have q5 : V.cell? ⟨g, 5, none⟩ = some (.slice ea le ec) := HBL.out.cell 5
      have q6 : V.cell? ⟨g, 6, none⟩ = some (.slice ra lr rc) := HBL.out.cell 6
      generalize hSE : (es.map sizE).sum = SE at *
      clear hSE
      generalize hts : t.size = ts at *
      go_wp2
      go_loopw [3, 6] (fun n j wr => ∃ m u : Nat, m ≤ le ∧ j = .int .i64 m ∧ n = .int .i64 u ∧ u = s + 10 + ts + lr + ((es.take m).map sizE).sum ∧ wr = V) (fun _ j _ => le - (intOf j).toNat)
      case atStart => exact ⟨0, s + 10 + ts + lr, Nat.zero_le _, rfl, congrArg (Value.int .i64) (by omega), by simp, rfl⟩
      case round =>
        obtain ⟨m, u, hm, rfl, rfl, hu, rfl⟩ := hrel
        by_cases hmt : m < le
        · have hmt' : (m : Int) < le := by omega
          have hmx : m < es.length := by rw [← HLE.out]; exact hmt
          obtain ⟨b2, o2, hb2, hid2, c0, _⟩ := HRE.out.idx m hmx
          have h1 := hse m hmx
          have h2 := hsr (m + 1)
          generalize es.getD m default = y at *
          obtain ⟨ys, yn⟩ := y
          simp only [sizE] at h1
          rw [h1] at h2
          have HU := hide (show u + 10 + ys.size = s + 10 + ts + lr + ((es.take (m + 1)).map sizE).sum by omega)
          generalize ((es.take m).map sizE).sum = Sm at *
          generalize hSn : ((es.take (m + 1)).map sizE).sum = Sn at *
          have HSn := hide hSn
          clear hSn
          go_wp2
          exact ⟨⟨m + 1, s + 10 + ts + lr + Sm + 10 + ys.size, by omega, by go_num, congrArg (Value.int .i64) (by omega), by have h1 := HU.out; rw [HSn.out]; omega, trivial⟩, by simp [intOf]; omega⟩
        · obtain rfl : m = le := by omega
          go_wp2
          exact ⟨⟨k + 1, u, by omega, by go_num, rfl, hide (by have h1 := HN.out; have h2 := HAL.out; omega), HB1⟩, by simp [intOf]; omega⟩
    · obtain rfl : k = len := by omega
      have HE := hide (show s = (xs.map f).sum by rw [HS.out, List.take_of_length_le (by rw [HL.out]; exact Nat.le_refl _)])
      go_wp2
      go_ret
      exact ⟨ret_one (congrArg Value.bool (decide_eq_decide.2 (by have := HE.out; omega))), HB.out⟩
end Go.Proofs.Ytgkmgpjhpplkiaa

/-
  Few deeds are few bytes.
-/
namespace Go.Proofs.Ytgkmgpjhpplkiaa
open Go.RowKit
set_option linter.unusedVariables false
set_option maxRecDepth 100000

theorem flat_le {α : Type} (f : α → List Int) (g : α → Nat) (l : List α) (h : ∀ x, (f x).length ≤ 24 * g x) : (l.flatMap f).length ≤ 24 * (l.map g).sum := by
  induction l with
  | nil => simp
  | cons a t ih =>
    have h1 := h a
    rw [List.flatMap_cons, List.length_append, List.map_cons, List.sum_cons]
    omega
theorem packRs_length (l : List Rn) : (l.flatMap packR).length = 24 * l.length := by
  induction l with
  | nil => rfl
  | cons a t ih => rw [List.flatMap_cons, List.length_append, packR_length, ih, List.length_cons]; omega
theorem packD_le (d : Dd) : (packD d).length ≤ 24 * sizD d := by
  have h1 := flat_le packE sizE d.x.es fun e => by rw [packE_length]; unfold sizE; omega
  have h2 := packRs_length d.x.rs
  have h3 := packI_length d.x
  unfold sizD packD
  rw [List.length_cons]
  split
  · rw [n8_length]; omega
  · split
    · omega
    · simp only [List.length_nil]; omega
theorem packL_le (l : List Dd) : (packL l).length ≤ 24 * sizL l := flat_le packD sizD l packD_le
/-- Few deeds are packed in less than a hundred thousand bytes. -/
theorem packL_few {l : List Dd} (h : sizL l ≤ 4000) : (packL l).length ≤ 96000 := by have := packL_le l; omega
theorem length_few {l : List Dd} (h : sizL l ≤ 4000) : l.length ≤ 400 := by
  have : 10 * l.length ≤ sizL l := by
    unfold sizL
    clear h
    induction l with
    | nil => simp
    | cons a t ih => rw [List.map_cons, List.sum_cons, List.length_cons]; unfold sizD at *; omega
  omega
/-- What 'clean' makes of few deeds is few. -/
theorem sizD_drop (d : Dd) (x : Ino) (h : x = d.x ∨ x = noI) (k n : Int) : sizD ⟨k, n, x⟩ ≤ sizD d := by
  rcases h with rfl | rfl
  · exact Nat.le_refl _
  · unfold sizD noI
    simp
    omega
end Go.Proofs.Ytgkmgpjhpplkiaa

/-
  The contracts of package runs' small functions: isWithin, goesOn, isBehind, has.
-/
namespace Go.Proofs.Ytgkmgpjhpplkiaa
open Go.RowKit
set_option linter.unusedVariables false
set_option maxRecDepth 100000

theorem of_wf64 {n : Int} (h : (Lit.int .i64 n).wf = true) : -9223372036854775808 ≤ n ∧ n ≤ 9223372036854775807 := by
  simp [Lit.wf, IntKind.min, IntKind.max, IntKind.signed, IntKind.bits] at h; omega


/-- Of numbers that do not go round. -/
structure Rn.Mild (r : Rn) : Prop where
  f : -1000000 ≤ r.f ∧ r.f ≤ 1000000
  a : -5000000000 ≤ r.a ∧ r.a ≤ 5000000000
  n : -1000000 ≤ r.n ∧ r.n ≤ 1000000
theorem Rn.mild_of (r : Rn) (h : withinS r = true) : r.Mild := by
  have := within_iff.1 h
  exact ⟨by omega, by omega, by omega⟩
theorem Rn.Mild.wf {r : Rn} (h : r.Mild) : r.Wf := by
  obtain ⟨h1, h2, h3⟩ := h
  exact ⟨wf_i64 (by omega) (by omega), wf_i64 (by omega) (by omega), wf_i64 (by omega) (by omega)⟩

end Go.Proofs.Ytgkmgpjhpplkiaa

/-
  A region that draws its order, walked by hand where a guard says no: one operation that is not wanted; one that yields; one that alone may come up.
-/
namespace Go.Proofs.Ytgkmgpjhpplkiaa
open Go.RowKit
set_option linter.unusedVariables false

section
variable {P : Program} {l rest : List Oper} {Q : Exit → Act → World → Prop} {md : Region.Mode} {S : World → Prop} {fuel : Nat} {listed : Array Bool} {a : Act} {w : World} {o : Oper}
theorem drop_get {i : Nat} (hd : l.drop i = o :: rest) : l.toArray[i]? = some o := by
  have : (l.drop i)[0]? = some o := by rw [hd]; rfl
  simpa using this
/-- Not wanted. -/
theorem any_no (i : Nat) (hd : l.drop i = o :: rest) (hs : Region.noSelect l.toArray = true) (hf : Region.free md l.toArray listed i = true) (hr : (Region.ready md l.toArray listed).contains i = true)
    (hQ : ∀ c a w, Q (.panic c) (a.put o.dst undef) w → Q (.panic c) a w) (hw : Region.wanted o (yielded l.toArray a.tmps) = false) (hS : S w)
    (h : wpAnyH P md l.toArray Q S fuel (listed.setIfInBounds i true) (a.put o.dst undef) w) : wpAnyH P md l.toArray Q S (fuel + 1) listed a w :=
  wpAnyH_take (drop_get hd) hs hf hr hQ (Or.inr ⟨hw, rfl⟩) hS h
/-- Wanted, and it yields v in every world that meets S. -/
theorem any_yes (i : Nat) (v : Value) (hd : l.drop i = o :: rest) (hs : Region.noSelect l.toArray = true) (hf : Region.free md l.toArray listed i = true) (hr : (Region.ready md l.toArray listed).contains i = true)
    (hQ : ∀ c a w, Q (.panic c) (a.put o.dst v) w → Q (.panic c) a w) (hw : Region.wanted o (yielded l.toArray a.tmps) = true) (hv : ∀ w, S w → (execOp a.eval o).run P w = .ok (.value v) w) (hS : S w)
    (h : wpAnyH P md l.toArray Q S fuel (listed.setIfInBounds i true) (a.put o.dst v) w) : wpAnyH P md l.toArray Q S (fuel + 1) listed a w :=
  wpAnyH_take (drop_get hd) hs hf hr hQ (Or.inl ⟨hw, hv⟩) hS h
/-- It alone may come up. -/
theorem any_one (i : Nat) (hr : Region.ready md l.toArray listed = [i]) (hd : l.drop i = o :: rest) (hw : Region.wanted o (yielded l.toArray a.tmps) = true)
    (h : ∀ K' : Act → World → Prop, Shut (∀ a w, S w → (S w → wpAnyH P md l.toArray Q S fuel (listed.setIfInBounds i true) a w) → K' a w) → Oper.wp P o a w K' Q) : wpAnyH P md l.toArray Q S (fuel + 1) listed a w :=
  wpAnyH_ready hr (by simp) (AllReadyH.cons (drop_get hd) (fun K' hK => by rw [if_pos hw]; exact h K' hK) .nil)
end
end Go.Proofs.Ytgkmgpjhpplkiaa

/-
  The contracts of package runs: Right.
-/
namespace Go.Proofs.Ytgkmgpjhpplkiaa
open Go.RowKit
set_option linter.unusedVariables false
set_option maxRecDepth 100000

/-- Six cells that are read, and all that is old, as they were. -/
def Six (b o c : Nat) (r p : Rn) (w0 w' : World) : Prop :=
  ((w'.cell? ⟨b, o, none⟩ = some (.int .i64 p.f) ∧ w'.cell? ⟨b, o + 1, none⟩ = some (.int .i64 p.a) ∧ w'.cell? ⟨b, o + 2, none⟩ = some (.int .i64 p.n)) ∧
   (w'.cell? ⟨c, 0, none⟩ = some (.int .i64 r.f) ∧ w'.cell? ⟨c, 1, none⟩ = some (.int .i64 r.a) ∧ w'.cell? ⟨c, 2, none⟩ = some (.int .i64 r.n))) ∧ Below w0.heap.size w0 w'
theorem Six.step {b o c : Nat} {r p : Rn} {w0 w w' : World} (hb : Below w.heap.size w w') (h : Six b o c r p w0 w) : Six b o c r p w0 w' := by
  obtain ⟨⟨⟨h0, h1, h2⟩, h3, h4, h5⟩, h6⟩ := h
  exact ⟨⟨⟨kl_cell hb h0, kl_cell hb h1, kl_cell hb h2⟩, kl_cell hb h3, kl_cell hb h4, kl_cell hb h5⟩, h6.trans (hb.mono h6.size)⟩
theorem Six.below {b o c : Nat} {r p : Rn} {w0 w : World} (h : Six b o c r p w0 w) : Below w0.heap.size w0 w := h.2

theorem three_step {c : Nat} {x y z : Value} {w0 w w' : World} (hb : Below w.heap.size w w') (h : (w.cell? ⟨c, 0, none⟩ = some x ∧ w.cell? ⟨c, 1, none⟩ = some y ∧ w.cell? ⟨c, 2, none⟩ = some z) ∧ Below w0.heap.size w0 w) :
    (w'.cell? ⟨c, 0, none⟩ = some x ∧ w'.cell? ⟨c, 1, none⟩ = some y ∧ w'.cell? ⟨c, 2, none⟩ = some z) ∧ Below w0.heap.size w0 w' :=
  ⟨⟨kl_cell hb h.1.1, kl_cell hb h.1.2.1, kl_cell hb h.1.2.2⟩, h.2.trans (hb.mono h.2.size)⟩
theorem three_below {w0 w : World} {A : Prop} (h : A ∧ Below w0.heap.size w0 w) : Below w0.heap.size w0 w := h.2

end Go.Proofs.Ytgkmgpjhpplkiaa

/-
  Two rows of runs held against each other: garrethelp's Plain.
-/
namespace Go.Proofs.Ytgkmgpjhpplkiaa
open Go.RowKit
set_option linter.unusedVariables false
set_option maxRecDepth 100000

theorem Rn.ext3 {x y : Rn} (h1 : x.f = y.f) (h2 : x.a = y.a) (h3 : x.n = y.n) : x = y := by
  cases x; cases y; simp at h1 h2 h3; subst h1 h2 h3; rfl
instance : DecidableEq Rn := fun x y => decidable_of_iff (x.f = y.f ∧ x.a = y.a ∧ x.n = y.n) ⟨fun h => Rn.ext3 h.1 h.2.1 h.2.2, fun h => by subst h; exact ⟨rfl, rfl, rfl⟩⟩

set_option maxHeartbeats 1000000 in
theorem oneR_any (w : World) (f a n f' a' n' : Int) : Calls Try.prog 46 #[.agg #[.int .i64 f, .int .i64 a, .int .i64 n], .agg #[.int .i64 f', .int .i64 a', .int .i64 n']] w (SaysB (decide ((⟨f, a, n⟩ : Rn) = ⟨f', a', n'⟩)) w) := by
  have hB : Below w.heap.size w ((w.alloc (.cells #[.int .i64 f, .int .i64 a, .int .i64 n] 67)).alloc (.cells #[.int .i64 f', .int .i64 a', .int .i64 n'] 67)) := ((Below.refl _ _).alloc (Nat.le_refl _) _).alloc (by simp) _
  have HB := hide hB
  clear hB
  have hparts : (f = f' ∧ a = a' ∧ n = n') ∨ ((f == f') = false ∧ ¬ (⟨f, a, n⟩ : Rn) = ⟨f', a', n'⟩) ∨ (f = f' ∧ (a == a') = false ∧ ¬ (⟨f, a, n⟩ : Rn) = ⟨f', a', n'⟩) ∨ (f = f' ∧ a = a' ∧ (n == n') = false ∧ ¬ (⟨f, a, n⟩ : Rn) = ⟨f', a', n'⟩) := by
    by_cases h1 : f = f'
    · by_cases h2 : a = a'
      · by_cases h3 : n = n'
        · exact .inl ⟨h1, h2, h3⟩
        · exact .inr (.inr (.inr ⟨h1, h2, beq_eq_false_iff_ne.2 h3, fun h => h3 (by simpa using congrArg Rn.n h)⟩))
      · exact .inr (.inr (.inl ⟨h1, beq_eq_false_iff_ne.2 h2, fun h => h2 (by simpa using congrArg Rn.a h)⟩))
    · exact .inr (.inl ⟨beq_eq_false_iff_ne.2 h1, fun h => h1 (by simpa using congrArg Rn.f h)⟩)
  rcases hparts with ⟨rfl, rfl, rfl⟩ | ⟨h1, h4⟩ | ⟨rfl, h2, h4⟩ | ⟨rfl, rfl, h3, h4⟩
  · rw [decide_eq_true rfl]
    go_enter Try.func46, Try.ntmps46
    go_wp2
    go_ret
    exact ⟨rfl, HB.out⟩
  · rw [decide_eq_false h4]
    clear h4
    go_enter Try.func46, Try.ntmps46
    go_wp2
    go_ret
    exact ⟨rfl, HB.out⟩
  · rw [decide_eq_false h4]
    clear h4
    go_enter Try.func46, Try.ntmps46
    go_wp2
    go_ret
    exact ⟨rfl, HB.out⟩
  · rw [decide_eq_false h4]
    clear h4
    go_enter Try.func46, Try.ntmps46
    go_wp2
    go_ret
    exact ⟨rfl, HB.out⟩

theorem take_sameR {xs ys : List Rn} {k : Nat} (hx : k < xs.length) (hy : k < ys.length) (h : xs.take k = ys.take k) (e : xs.getD k default = ys.getD k default) : xs.take (k + 1) = ys.take (k + 1) := by
  rw [take_moreR hx, take_moreR hy, h, e]

/-- Two runs that are read. -/
def Two6 (b o c q : Nat) (r p : Rn) (w0 w' : World) : Prop :=
  ((w'.cell? ⟨b, o, none⟩ = some (.int .i64 p.f) ∧ w'.cell? ⟨b, o + 1, none⟩ = some (.int .i64 p.a) ∧ w'.cell? ⟨b, o + 2, none⟩ = some (.int .i64 p.n)) ∧
   (w'.cell? ⟨c, q, none⟩ = some (.int .i64 r.f) ∧ w'.cell? ⟨c, q + 1, none⟩ = some (.int .i64 r.a) ∧ w'.cell? ⟨c, q + 2, none⟩ = some (.int .i64 r.n))) ∧ Below w0.heap.size w0 w'
theorem Two6.step {b o c q : Nat} {r p : Rn} {w0 w w' : World} (hb : Below w.heap.size w w') (h : Two6 b o c q r p w0 w) : Two6 b o c q r p w0 w' := by
  obtain ⟨⟨⟨h0, h1, h2⟩, h3, h4, h5⟩, h6⟩ := h
  exact ⟨⟨⟨kl_cell hb h0, kl_cell hb h1, kl_cell hb h2⟩, kl_cell hb h3, kl_cell hb h4, kl_cell hb h5⟩, h6.trans (hb.mono h6.size)⟩

set_option maxHeartbeats 4000000 in
theorem SameR_any (w : World) (a b : Value) (xs ys : List Rn) (ha : RRow w a xs) (hb : RRow w b ys) :
    Calls Try.prog 45 #[a, b, .func (.func 46) #[] #[]] w (SaysB (decide (xs = ys)) w) := by
  have hla := ha.lenRun
  have hlb := hb.lenRun
  have hxm := ha.len
  unfold maxLen at hxm
  have HA := hide ha
  have HB := hide hb
  clear ha hb
  by_cases hn : xs.length = ys.length
  · obtain ⟨len, hL⟩ : ∃ n, xs.length = n := ⟨_, rfl⟩
    have HX := hide hL
    have HY := hide (hn.symm.trans hL)
    simp only [← hn] at hlb
    rw [hL] at hxm
    simp only [hL] at hla hlb
    clear hL hn
    go_enter Try.func45, Try.ntmps45
    go_wp2
    go_loopw [7] (fun i wr => ∃ k : Nat, k ≤ len ∧ i = .int .i64 k ∧ xs.take k = ys.take k ∧ Below w.heap.size w wr) (fun i _ => len - (intOf i).toNat)
    case atStart => exact ⟨0, Nat.zero_le _, rfl, by simp, Below.refl _ _⟩
    case round =>
      obtain ⟨k, hk, rfl, htk, hbk⟩ := hrel
      have HT := hide htk
      clear htk
      by_cases hlt : k < len
      · have hlt' : (k : Int) < len := by omega
        have hkx : k < xs.length := by rw [HX.out]; exact hlt
        have hky : k < ys.length := by rw [HY.out]; exact hlt
        obtain ⟨ba, oa, hsa, hia, a0, a1, a2⟩ := (HA.out.below hbk).idx k hkx
        obtain ⟨bb, ob, hsb, hib, b0, b1, b2⟩ := (HB.out.below hbk).idx k hky
        have hmt := take_sameR hkx hky HT.out
        have hmf : xs.getD k default ≠ ys.getD k default → decide (xs = ys) = false := fun h => decide_eq_false (fun e => h (by rw [e]))
        generalize xs.getD k default = x at *
        generalize ys.getD k default = y at *
        obtain ⟨f, a, n⟩ := x
        obtain ⟨f', a', n'⟩ := y
        simp only at a0 a1 a2 b0 b1 b2
        have hon := fun w => oneR_any w f a n f' a' n'
        have HS : Hid (Two6 ba oa bb ob ⟨f', a', n'⟩ ⟨f, a, n⟩ wr wr) := hide ⟨⟨⟨a0, a1, a2⟩, b0, b1, b2⟩, Below.refl _ _⟩
        have HMT := hide hmt
        have HMF := hide hmf
        have HBK := hide hbk
        clear hmt hmf a0 a1 a2 b0 b1 b2 hbk
        generalize hd : decide ((⟨f, a, n⟩ : Rn) = ⟨f', a', n'⟩) = d at *
        have HD := hide hd
        clear hd
        go_wp2_with fail
        go_region_held3 (fun w' => ((w'.cell? ⟨ba, oa, none⟩ = some (.int .i64 f) ∧ w'.cell? ⟨ba, oa + 1, none⟩ = some (.int .i64 a) ∧ w'.cell? ⟨ba, oa + 2, none⟩ = some (.int .i64 n)) ∧
   (w'.cell? ⟨bb, ob, none⟩ = some (.int .i64 f') ∧ w'.cell? ⟨bb, ob + 1, none⟩ = some (.int .i64 a') ∧ w'.cell? ⟨bb, ob + 2, none⟩ = some (.int .i64 n'))) ∧ Below wr.heap.size wr w')
          (first
            | assumption
            | exact Two6.step (kl_drew _) HS.out
            | exact Two6.step hb9 (show Two6 ba oa bb ob ⟨f', a', n'⟩ ⟨f, a, n⟩ wr _ by assumption)
            | fail)
          (first
            | (go_at_call 46; refine (hon _).mono ?_; rintro x w9 ⟨rfl, hb9⟩)
            | fail)
        have hX : Two6 ba oa bb ob ⟨f', a', n'⟩ ⟨f, a, n⟩ wr w9 := by assumption
        have hB9 : Below w.heap.size w w9 := HBK.out.trans (hX.2.mono HBK.out.size)
        clear hX hb9
        cases d with
        | true =>
          have HN := hide (HMT.out (of_decide_eq_true HD.out))
          go_wp2
          exact ⟨⟨k + 1, by omega, by go_num, HN.out, hB9⟩, by simp [intOf]; omega⟩
        | false =>
          have HN := hide (HMF.out (of_decide_eq_false HD.out))
          go_wp2
          go_ret
          exact ⟨ret_one (congrArg Value.bool HN.out.symm), hB9⟩
      · obtain rfl : k = len := by omega
        have HD := hide (show decide (xs = ys) = true from decide_eq_true (by
          have := HT.out
          rwa [List.take_of_length_le (by rw [HX.out]; exact Nat.le_refl _), List.take_of_length_le (by rw [HY.out]; exact Nat.le_refl _)] at this))
        go_wp2
        go_ret
        exact ⟨ret_one (congrArg Value.bool HD.out.symm), hbk⟩
  · have hne : ((xs.length : Int) != (ys.length : Int)) = true := by simp; omega
    rw [show decide (xs = ys) = false from decide_eq_false (fun e => hn (by rw [e]))]
    generalize xs.length = n at *
    generalize ys.length = m at *
    clear hn
    go_enter Try.func45, Try.ntmps45
    go_wp2
    go_ret
    exact ⟨rfl, Below.refl _ _⟩

theorem PlainR_any (w : World) (a b : Value) (xs ys : List Rn) (ha : RRow w a xs) (hb : RRow w b ys) :
    Calls Try.prog 31 #[a, b] w (SaysB (decide (xs = ys)) w) := by
  have hs := SameR_any w a b xs ys ha hb
  generalize decide (xs = ys) = d at *
  clear ha hb
  go_enter Try.func31, Try.ntmps31
  go_wp2_with fail
  refine hs.mono ?_
  rintro e w1 ⟨rfl, hb1⟩
  go_wp2
  go_ret
  exact ⟨rfl, hb1⟩
end Go.Proofs.Ytgkmgpjhpplkiaa

/-
  Two rows of entries held against each other: garrethelp's Plain.
-/
namespace Go.Proofs.Ytgkmgpjhpplkiaa
open Go.RowKit
set_option linter.unusedVariables false
set_option maxRecDepth 100000

instance : DecidableEq En := fun x y => decidable_of_iff (bl x.s = bl y.s ∧ x.n = y.n) ⟨fun h => En.ext' h.1 h.2, fun h => by subst h; exact ⟨rfl, rfl⟩⟩
theorem take_moreE {l : List En} {k : Nat} (h : k < l.length) : l.take (k + 1) = l.take k ++ [l.getD k default] := by
  rw [List.take_succ_eq_append_getElem h]; simp [List.getD, List.getElem?_eq_getElem h]

set_option maxHeartbeats 1000000 in
theorem oneE_any (w : World) (f : ByteArray) (a : Int) (f' : ByteArray) (a' : Int) : Calls Try.prog 44 #[.agg #[.string f, .int .i64 a], .agg #[.string f', .int .i64 a']] w (SaysB (decide ((⟨f, a⟩ : En) = ⟨f', a'⟩)) w) := by
  have hB : Below w.heap.size w ((w.alloc (.cells #[.string f, .int .i64 a] 49)).alloc (.cells #[.string f', .int .i64 a'] 49)) := ((Below.refl _ _).alloc (Nat.le_refl _) _).alloc (by simp) _
  have HB := hide hB
  clear hB
  have hparts : (f = f' ∧ a = a') ∨ ((f.toList == f'.toList) = false ∧ ¬ (⟨f, a⟩ : En) = ⟨f', a'⟩) ∨ (f = f' ∧ (a == a') = false ∧ ¬ (⟨f, a⟩ : En) = ⟨f', a'⟩) := by
    by_cases h1 : f = f'
    · by_cases h2 : a = a'
      · exact .inl ⟨h1, h2⟩
      · exact .inr (.inr ⟨h1, beq_eq_false_iff_ne.2 h2, fun h => h2 (by simpa using congrArg En.n h)⟩)
    · refine .inr (.inl ⟨beq_eq_false_iff_ne.2 fun h => h1 ?_, fun h => h1 (by simpa using congrArg En.s h)⟩)
      rw [Lib.toList_data, Lib.toList_data] at h
      exact bl_inj h
  rcases hparts with ⟨rfl, rfl⟩ | ⟨h1, h4⟩ | ⟨rfl, h2, h4⟩
  · rw [decide_eq_true rfl]
    go_enter Try.func44, Try.ntmps44
    go_wp2
    go_ret
    exact ⟨rfl, HB.out⟩
  · rw [decide_eq_false h4]
    clear h4
    go_enter Try.func44, Try.ntmps44
    go_wp2
    go_ret
    exact ⟨rfl, HB.out⟩
  · rw [decide_eq_false h4]
    clear h4
    go_enter Try.func44, Try.ntmps44
    go_wp2
    go_ret
    exact ⟨rfl, HB.out⟩

theorem take_same {xs ys : List En} {k : Nat} (hx : k < xs.length) (hy : k < ys.length) (h : xs.take k = ys.take k) (e : xs.getD k default = ys.getD k default) : xs.take (k + 1) = ys.take (k + 1) := by
  rw [take_moreE hx, take_moreE hy, h, e]

/-- Two entries that are read. -/
def Two4 (b o c q : Nat) (r p : En) (w0 w' : World) : Prop :=
  ((w'.cell? ⟨b, o, none⟩ = some (.string p.s) ∧ w'.cell? ⟨b, o + 1, none⟩ = some (.int .i64 p.n)) ∧
   (w'.cell? ⟨c, q, none⟩ = some (.string r.s) ∧ w'.cell? ⟨c, q + 1, none⟩ = some (.int .i64 r.n))) ∧ Below w0.heap.size w0 w'
theorem Two4.step {b o c q : Nat} {r p : En} {w0 w w' : World} (hb : Below w.heap.size w w') (h : Two4 b o c q r p w0 w) : Two4 b o c q r p w0 w' := by
  obtain ⟨⟨⟨h0, h1⟩, h3, h4⟩, h6⟩ := h
  exact ⟨⟨⟨kl_cell hb h0, kl_cell hb h1⟩, kl_cell hb h3, kl_cell hb h4⟩, h6.trans (hb.mono h6.size)⟩

set_option maxHeartbeats 4000000 in
theorem SameE_any (w : World) (a b : Value) (xs ys : List En) (ha : ERow w a xs) (hb : ERow w b ys) :
    Calls Try.prog 43 #[a, b, .func (.func 44) #[] #[]] w (SaysB (decide (xs = ys)) w) := by
  have hla := ha.lenRun
  have hlb := hb.lenRun
  have hxm := ha.len
  unfold maxLen at hxm
  have HA := hide ha
  have HB := hide hb
  clear ha hb
  by_cases hn : xs.length = ys.length
  · obtain ⟨len, hL⟩ : ∃ n, xs.length = n := ⟨_, rfl⟩
    have HX := hide hL
    have HY := hide (hn.symm.trans hL)
    simp only [← hn] at hlb
    rw [hL] at hxm
    simp only [hL] at hla hlb
    clear hL hn
    go_enter Try.func43, Try.ntmps43
    go_wp2
    go_loopw [7] (fun i wr => ∃ k : Nat, k ≤ len ∧ i = .int .i64 k ∧ xs.take k = ys.take k ∧ Below w.heap.size w wr) (fun i _ => len - (intOf i).toNat)
    case atStart => exact ⟨0, Nat.zero_le _, rfl, by simp, Below.refl _ _⟩
    case round =>
      obtain ⟨k, hk, rfl, htk, hbk⟩ := hrel
      have HT := hide htk
      clear htk
      by_cases hlt : k < len
      · have hlt' : (k : Int) < len := by omega
        have hkx : k < xs.length := by rw [HX.out]; exact hlt
        have hky : k < ys.length := by rw [HY.out]; exact hlt
        obtain ⟨ba, oa, hsa, hia, a0, a1⟩ := (HA.out.below hbk).idx k hkx
        obtain ⟨bb, ob, hsb, hib, b0, b1⟩ := (HB.out.below hbk).idx k hky
        have hmt := take_same hkx hky HT.out
        have hmf : xs.getD k default ≠ ys.getD k default → decide (xs = ys) = false := fun h => decide_eq_false (fun e => h (by rw [e]))
        generalize xs.getD k default = x at *
        generalize ys.getD k default = y at *
        obtain ⟨f, a⟩ := x
        obtain ⟨f', a'⟩ := y
        simp only at a0 a1 b0 b1
        have hon := fun w => oneE_any w f a f' a'
        have HS : Hid (Two4 ba oa bb ob ⟨f', a'⟩ ⟨f, a⟩ wr wr) := hide ⟨⟨⟨a0, a1⟩, b0, b1⟩, Below.refl _ _⟩
        have HMT := hide hmt
        have HMF := hide hmf
        have HBK := hide hbk
        clear hmt hmf a0 a1 b0 b1 hbk
        generalize hd : decide ((⟨f, a⟩ : En) = ⟨f', a'⟩) = d at *
        have HD := hide hd
        clear hd
        go_wp2_with fail
        go_region_held3 (fun w' => ((w'.cell? ⟨ba, oa, none⟩ = some (.string f) ∧ w'.cell? ⟨ba, oa + 1, none⟩ = some (.int .i64 a)) ∧
   (w'.cell? ⟨bb, ob, none⟩ = some (.string f') ∧ w'.cell? ⟨bb, ob + 1, none⟩ = some (.int .i64 a'))) ∧ Below wr.heap.size wr w')
          (first
            | assumption
            | exact Two4.step (kl_drew _) HS.out
            | exact Two4.step hb9 (show Two4 ba oa bb ob ⟨f', a'⟩ ⟨f, a⟩ wr _ by assumption)
            | fail)
          (first
            | (go_at_call 44; refine (hon _).mono ?_; rintro x w9 ⟨rfl, hb9⟩)
            | fail)
        have hX : Two4 ba oa bb ob ⟨f', a'⟩ ⟨f, a⟩ wr w9 := by assumption
        have hB9 : Below w.heap.size w w9 := HBK.out.trans (hX.2.mono HBK.out.size)
        clear hX hb9
        cases d with
        | true =>
          have HN := hide (HMT.out (of_decide_eq_true HD.out))
          go_wp2
          exact ⟨⟨k + 1, by omega, by go_num, HN.out, hB9⟩, by simp [intOf]; omega⟩
        | false =>
          have HN := hide (HMF.out (of_decide_eq_false HD.out))
          go_wp2
          go_ret
          exact ⟨ret_one (congrArg Value.bool HN.out.symm), hB9⟩
      · obtain rfl : k = len := by omega
        have HD := hide (show decide (xs = ys) = true from decide_eq_true (by
          have := HT.out
          rwa [List.take_of_length_le (by rw [HX.out]; exact Nat.le_refl _), List.take_of_length_le (by rw [HY.out]; exact Nat.le_refl _)] at this))
        go_wp2
        go_ret
        exact ⟨ret_one (congrArg Value.bool HD.out.symm), hbk⟩
  · have hne : ((xs.length : Int) != (ys.length : Int)) = true := by simp; omega
    rw [show decide (xs = ys) = false from decide_eq_false (fun e => hn (by rw [e]))]
    generalize xs.length = n at *
    generalize ys.length = m at *
    clear hn
    go_enter Try.func43, Try.ntmps43
    go_wp2
    go_ret
    exact ⟨rfl, Below.refl _ _⟩

theorem PlainE_any (w : World) (a b : Value) (xs ys : List En) (ha : ERow w a xs) (hb : ERow w b ys) :
    Calls Try.prog 30 #[a, b] w (SaysB (decide (xs = ys)) w) := by
  have hs := SameE_any w a b xs ys ha hb
  generalize decide (xs = ys) = d at *
  clear ha hb
  go_enter Try.func30, Try.ntmps30
  go_wp2_with fail
  refine hs.mono ?_
  rintro e w1 ⟨rfl, hb1⟩
  go_wp2
  go_ret
  exact ⟨rfl, hb1⟩
end Go.Proofs.Ytgkmgpjhpplkiaa

/-
  Inodes: garrethelp's Inode.
-/
namespace Go.Proofs.Ytgkmgpjhpplkiaa
open Go.RowKit
set_option linter.unusedVariables false
set_option maxRecDepth 100000

def sameI (x y : Ino) : Bool := x.no == y.no && (x.kind == y.kind && (x.links == y.links && (x.size == y.size && (decide (bl x.t = bl y.t) && (decide (x.es = y.es) && decide (x.rs = y.rs))))))
theorem sameI_refl (x : Ino) : sameI x x = true := by simp [sameI]
/-- Both lie there. -/
def TwoI (w0 : World) (A B : Nat) (xs ys : Array Value) (w : World) : Prop := Blk w A xs 36 ∧ Blk w B ys 36 ∧ Below w0.heap.size w0 w
theorem TwoI.step {w0 w w' : World} {A B : Nat} {xs ys : Array Value} (h : TwoI w0 A B xs ys w) (hb : Below w.heap.size w w') : TwoI w0 A B xs ys w' := ⟨kl_blk hb h.1, kl_blk hb h.2.1, kl_step hb h.2.2⟩

set_option maxHeartbeats 8000000 in
theorem SameI_any (w : World) (no kind links size : Int) (t : ByteArray) (ev rv : Value) (es : List En) (rs : List Rn) (no' kind' links' size' : Int) (t' : ByteArray) (ev' rv' : Value) (es' : List En) (rs' : List Rn)
    (he : ERow w ev es) (hr : RRow w rv rs) (he' : ERow w ev' es') (hr' : RRow w rv' rs') :
    Calls Try.prog 20 #[.agg #[.int .i64 no, .int .i64 kind, .int .i64 links, .int .i64 size, .string t, ev, rv], .agg #[.int .i64 no', .int .i64 kind', .int .i64 links', .int .i64 size', .string t', ev', rv']] w
      (SaysB (sameI ⟨no, kind, links, size, t, es, rs⟩ ⟨no', kind', links', size', t', es', rs'⟩) w) := by
  obtain ⟨w0, hw0⟩ : ∃ W, W = w.alloc (.cells #[.int .i64 no, .int .i64 kind, .int .i64 links, .int .i64 size, .string t, ev, rv] 36) := ⟨_, rfl⟩
  have hb0 : Below w.heap.size w w0 := by rw [hw0]; exact kl_alloc w _
  have hB0 : Blk w0 w.heap.size #[.int .i64 no, .int .i64 kind, .int .i64 links, .int .i64 size, .string t, ev, rv] 36 := by rw [hw0]; exact Blk.new w _ _
  have hsz : w0.heap.size = w.heap.size + 1 := by rw [hw0]; simp
  obtain ⟨V, hV⟩ : ∃ W, W = w0.alloc (.cells #[.int .i64 no', .int .i64 kind', .int .i64 links', .int .i64 size', .string t', ev', rv'] 36) := ⟨_, rfl⟩
  have hb1 : Below w0.heap.size w0 V := by rw [hV]; exact kl_alloc w0 _
  have hB1 : Blk V (w.heap.size + 1) #[.int .i64 no', .int .i64 kind', .int .i64 links', .int .i64 size', .string t', ev', rv'] 36 := by rw [hV, ← hsz]; exact Blk.new w0 _ _
  have HT := hide (show TwoI w w.heap.size (w.heap.size + 1) _ _ V from ⟨kl_blk hb1 hB0, hB1, kl_step hb1 hb0⟩)
  have Hw0 := hide hw0
  have HV := hide hV
  have HE := hide he
  have HR := hide hr
  have HE' := hide he'
  have HR' := hide hr'
  clear hb0 hB0 hsz hb1 hB1 hw0 hV he hr he' hr'
  go_enter Try.func20, Try.ntmps20
  go_upto_region 1 with fail
  rw [← Hw0.out, ← HV.out]
  clear Hw0 HV
  have HI : Hid (sameI ⟨no, kind, links, size, t, es, rs⟩ ⟨no', kind', links', size', t', es', rs'⟩ = (no == no' && (kind == kind' && (links == links' && (size == size' && (decide (bl t = bl t') && (decide (es = es') && decide (rs = rs')))))))) := hide rfl
  generalize hA : w.heap.size = A at *
  have HA := hide hA
  clear hA
  obtain ⟨B, hB⟩ : ∃ B, B = A + 1 := ⟨_, rfl⟩
  rw [← hB] at HT ⊢
  clear hB
  have a0 : V.cell? ⟨A, 0, none⟩ = some (.int .i64 no) := HT.out.1.cell 0
  have b0 : V.cell? ⟨B, 0, none⟩ = some (.int .i64 no') := HT.out.2.1.cell 0
  have a1 : V.cell? ⟨A, 1, none⟩ = some (.int .i64 kind) := HT.out.1.cell 1
  have b1 : V.cell? ⟨B, 1, none⟩ = some (.int .i64 kind') := HT.out.2.1.cell 1
  have a2 : V.cell? ⟨A, 2, none⟩ = some (.int .i64 links) := HT.out.1.cell 2
  have b2 : V.cell? ⟨B, 2, none⟩ = some (.int .i64 links') := HT.out.2.1.cell 2
  have a3 : V.cell? ⟨A, 3, none⟩ = some (.int .i64 size) := HT.out.1.cell 3
  have b3 : V.cell? ⟨B, 3, none⟩ = some (.int .i64 size') := HT.out.2.1.cell 3
  have a4 : V.cell? ⟨A, 4, none⟩ = some (.string t) := HT.out.1.cell 4
  have b4 : V.cell? ⟨B, 4, none⟩ = some (.string t') := HT.out.2.1.cell 4
  have a5 : V.cell? ⟨A, 5, none⟩ = some ev := HT.out.1.cell 5
  have b5 : V.cell? ⟨B, 5, none⟩ = some ev' := HT.out.2.1.cell 5
  by_cases qno : no = no'
  case neg =>
    have eno : (no == no') = false := by simpa using qno
    have HF := hide (HI.out.trans (by rw [eno]))
    clear qno
    go_wp2
    go_ret
    exact ⟨ret_one (congrArg Value.bool HF.out.symm), HT.out.2.2⟩
  have eno : (no == no') = true := by simpa using qno
  clear qno
  by_cases qkind : kind = kind'
  case neg =>
    have ekind : (kind == kind') = false := by simpa using qkind
    have HF := hide (HI.out.trans (by rw [eno, ekind]))
    clear qkind
    go_wp2
    go_ret
    exact ⟨ret_one (congrArg Value.bool HF.out.symm), HT.out.2.2⟩
  have ekind : (kind == kind') = true := by simpa using qkind
  clear qkind
  by_cases qlinks : links = links'
  case neg =>
    have elinks : (links == links') = false := by simpa using qlinks
    have HF := hide (HI.out.trans (by rw [eno, ekind, elinks]))
    clear qlinks
    go_wp2
    go_ret
    exact ⟨ret_one (congrArg Value.bool HF.out.symm), HT.out.2.2⟩
  have elinks : (links == links') = true := by simpa using qlinks
  clear qlinks
  by_cases qsize : size = size'
  case neg =>
    have esize : (size == size') = false := by simpa using qsize
    have HF := hide (HI.out.trans (by rw [eno, ekind, elinks, esize]))
    clear qsize
    go_wp2
    go_ret
    exact ⟨ret_one (congrArg Value.bool HF.out.symm), HT.out.2.2⟩
  have esize : (size == size') = true := by simpa using qsize
  clear qsize
  have hsb := same_bl t t'
  by_cases qt : bl t = bl t'
  case neg =>
    rw [decide_eq_false qt] at hsb
    have HF := hide (HI.out.trans (by rw [eno, ekind, elinks, esize, decide_eq_false qt]))
    clear qt
    go_wp2
    go_ret
    exact ⟨ret_one (congrArg Value.bool HF.out.symm), HT.out.2.2⟩
  rw [decide_eq_true qt] at hsb
  have HI2 := hide (HI.out.trans (by rw [eno, ekind, elinks, esize, decide_eq_true qt, Bool.true_and, Bool.true_and, Bool.true_and, Bool.true_and, Bool.true_and]))
  clear qt HI
  go_wp2_with fail
  refine (PlainE_any V ev ev' es es' (HE.out.below HT.out.2.2) (HE'.out.below HT.out.2.2)).mono ?_
  rintro e w5 ⟨rfl, hb5⟩
  have HT5 := hide (HT.out.step hb5)
  clear a0 b0 a1 b1 a2 b2 a3 b3 a4 b4 a5 b5 hb5 HT
  generalize decide (es = es') = p at *
  have a6 : w5.cell? ⟨A, 6, none⟩ = some rv := HT5.out.1.cell 6
  have b6 : w5.cell? ⟨B, 6, none⟩ = some rv' := HT5.out.2.1.cell 6
  cases p with
  | false =>
    go_wp2
    go_ret
    exact ⟨ret_one (congrArg Value.bool HI2.out.symm), HT5.out.2.2⟩
  | true =>
    go_wp2_with fail
    refine (PlainR_any w5 rv rv' rs rs' (HR.out.below HT5.out.2.2) (HR'.out.below HT5.out.2.2)).mono ?_
    rintro e w6 ⟨rfl, hb6⟩
    have HT6 := hide (HT5.out.step hb6)
    clear a6 b6 hb6 HT5
    go_wp2
    go_ret
    exact ⟨ret_one (congrArg Value.bool HI2.out.symm), HT6.out.2.2⟩
end Go.Proofs.Ytgkmgpjhpplkiaa

/-
  Deeds held against each other: garrethelp's Deed, and Same over deeds.
-/
namespace Go.Proofs.Ytgkmgpjhpplkiaa
open Go.RowKit
set_option linter.unusedVariables false
set_option maxRecDepth 100000

def sameD (a b : Dd) : Bool := a.kind == b.kind && (a.no == b.no && sameI a.x b.x)
theorem sameD_refl (a : Dd) : sameD a a = true := by simp [sameD, sameI_refl]
/-- Two rows of deeds are the same. -/
def sameL (xs ys : List Dd) : Bool := decide (xs.length = ys.length ∧ ∀ i, i < xs.length → sameD (xs.getD i default) (ys.getD i default) = true)
theorem sameL_refl (xs : List Dd) : sameL xs xs = true := by simp [sameL, sameD_refl]
/-- Both lie there. -/
def TwoD (w0 : World) (A B : Nat) (xs ys : Array Value) (w : World) : Prop := Blk w A xs 38 ∧ Blk w B ys 38 ∧ Below w0.heap.size w0 w

set_option maxHeartbeats 8000000 in
theorem SameD_any (w : World) (k1 n1 a1 b1 c1 e1 : Int) (t1 : ByteArray) (ev1 rv1 : Value) (es1 : List En) (rs1 : List Rn) (k2 n2 a2 b2 c2 e2 : Int) (t2 : ByteArray) (ev2 rv2 : Value) (es2 : List En) (rs2 : List Rn)
    (he : ERow w ev1 es1) (hr : RRow w rv1 rs1) (he' : ERow w ev2 es2) (hr' : RRow w rv2 rs2) :
    Calls Try.prog 17 #[.agg #[.int .i64 k1, .int .i64 n1, .int .i64 a1, .int .i64 b1, .int .i64 c1, .int .i64 e1, .string t1, ev1, rv1], .agg #[.int .i64 k2, .int .i64 n2, .int .i64 a2, .int .i64 b2, .int .i64 c2, .int .i64 e2, .string t2, ev2, rv2]] w
      (SaysB (sameD ⟨k1, n1, ⟨a1, b1, c1, e1, t1, es1, rs1⟩⟩ ⟨k2, n2, ⟨a2, b2, c2, e2, t2, es2, rs2⟩⟩) w) := by
  obtain ⟨w0, hw0⟩ : ∃ W, W = w.alloc (.cells #[.int .i64 k1, .int .i64 n1, .int .i64 a1, .int .i64 b1, .int .i64 c1, .int .i64 e1, .string t1, ev1, rv1] 38) := ⟨_, rfl⟩
  have hb0 : Below w.heap.size w w0 := by rw [hw0]; exact kl_alloc w _
  have hB0 : Blk w0 w.heap.size #[.int .i64 k1, .int .i64 n1, .int .i64 a1, .int .i64 b1, .int .i64 c1, .int .i64 e1, .string t1, ev1, rv1] 38 := by rw [hw0]; exact Blk.new w _ _
  have hsz : w0.heap.size = w.heap.size + 1 := by rw [hw0]; simp
  obtain ⟨V, hV⟩ : ∃ W, W = w0.alloc (.cells #[.int .i64 k2, .int .i64 n2, .int .i64 a2, .int .i64 b2, .int .i64 c2, .int .i64 e2, .string t2, ev2, rv2] 38) := ⟨_, rfl⟩
  have hb1 : Below w0.heap.size w0 V := by rw [hV]; exact kl_alloc w0 _
  have hB1 : Blk V (w.heap.size + 1) #[.int .i64 k2, .int .i64 n2, .int .i64 a2, .int .i64 b2, .int .i64 c2, .int .i64 e2, .string t2, ev2, rv2] 38 := by rw [hV, ← hsz]; exact Blk.new w0 _ _
  have HT := hide (show TwoD w w.heap.size (w.heap.size + 1) _ _ V from ⟨kl_blk hb1 hB0, hB1, kl_step hb1 hb0⟩)
  have Hw0 := hide hw0
  have HV := hide hV
  have HE := hide he
  have HR := hide hr
  have HE' := hide he'
  have HR' := hide hr'
  clear hb0 hB0 hsz hb1 hB1 hw0 hV he hr he' hr'
  go_enter Try.func17, Try.ntmps17
  go_upto_region 1 with fail
  rw [← Hw0.out, ← HV.out]
  clear Hw0 HV
  have HI : Hid (sameD ⟨k1, n1, ⟨a1, b1, c1, e1, t1, es1, rs1⟩⟩ ⟨k2, n2, ⟨a2, b2, c2, e2, t2, es2, rs2⟩⟩ = (k1 == k2 && (n1 == n2 && sameI ⟨a1, b1, c1, e1, t1, es1, rs1⟩ ⟨a2, b2, c2, e2, t2, es2, rs2⟩))) := hide rfl
  generalize hA : w.heap.size = A at *
  have HA := hide hA
  clear hA
  obtain ⟨B, hB⟩ : ∃ B, B = A + 1 := ⟨_, rfl⟩
  rw [← hB] at HT ⊢
  clear hB
  have p0 : V.cell? ⟨A, 0, none⟩ = some (.int .i64 k1) := HT.out.1.cell 0
  have q0 : V.cell? ⟨B, 0, none⟩ = some (.int .i64 k2) := HT.out.2.1.cell 0
  have p1 : V.cell? ⟨A, 1, none⟩ = some (.int .i64 n1) := HT.out.1.cell 1
  have q1 : V.cell? ⟨B, 1, none⟩ = some (.int .i64 n2) := HT.out.2.1.cell 1
  have p2 : V.cell? ⟨A, 2, none⟩ = some (.int .i64 a1) := HT.out.1.cell 2
  have q2 : V.cell? ⟨B, 2, none⟩ = some (.int .i64 a2) := HT.out.2.1.cell 2
  have p3 : V.cell? ⟨A, 3, none⟩ = some (.int .i64 b1) := HT.out.1.cell 3
  have q3 : V.cell? ⟨B, 3, none⟩ = some (.int .i64 b2) := HT.out.2.1.cell 3
  have p4 : V.cell? ⟨A, 4, none⟩ = some (.int .i64 c1) := HT.out.1.cell 4
  have q4 : V.cell? ⟨B, 4, none⟩ = some (.int .i64 c2) := HT.out.2.1.cell 4
  have p5 : V.cell? ⟨A, 5, none⟩ = some (.int .i64 e1) := HT.out.1.cell 5
  have q5 : V.cell? ⟨B, 5, none⟩ = some (.int .i64 e2) := HT.out.2.1.cell 5
  have p6 : V.cell? ⟨A, 6, none⟩ = some (.string t1) := HT.out.1.cell 6
  have q6 : V.cell? ⟨B, 6, none⟩ = some (.string t2) := HT.out.2.1.cell 6
  have p7 : V.cell? ⟨A, 7, none⟩ = some (ev1) := HT.out.1.cell 7
  have q7 : V.cell? ⟨B, 7, none⟩ = some (ev2) := HT.out.2.1.cell 7
  have p8 : V.cell? ⟨A, 8, none⟩ = some (rv1) := HT.out.1.cell 8
  have q8 : V.cell? ⟨B, 8, none⟩ = some (rv2) := HT.out.2.1.cell 8
  by_cases qk : k1 = k2
  case neg =>
    have ek : (k1 == k2) = false := by simpa using qk
    have HF := hide (HI.out.trans (by rw [ek, Bool.false_and]))
    clear qk
    go_wp2
    go_ret
    exact ⟨ret_one (congrArg Value.bool HF.out.symm), HT.out.2.2⟩
  have ek : (k1 == k2) = true := by simpa using qk
  clear qk
  by_cases qn : n1 = n2
  case neg =>
    have en : (n1 == n2) = false := by simpa using qn
    have HF := hide (HI.out.trans (by rw [ek, en, Bool.false_and, Bool.true_and]))
    clear qn
    go_wp2
    go_ret
    exact ⟨ret_one (congrArg Value.bool HF.out.symm), HT.out.2.2⟩
  have en : (n1 == n2) = true := by simpa using qn
  have HI2 := hide (HI.out.trans (by rw [ek, en, Bool.true_and, Bool.true_and]))
  clear qn HI
  have HC := hide (SameI_any V a1 b1 c1 e1 t1 ev1 rv1 es1 rs1 a2 b2 c2 e2 t2 ev2 rv2 es2 rs2 (HE.out.below HT.out.2.2) (HR.out.below HT.out.2.2) (HE'.out.below HT.out.2.2) (HR'.out.below HT.out.2.2))
  generalize sameI ⟨a1, b1, c1, e1, t1, es1, rs1⟩ ⟨a2, b2, c2, e2, t2, es2, rs2⟩ = d at *
  go_wp2_with fail
  refine HC.out.mono ?_
  rintro e w5 ⟨rfl, hb5⟩
  have hB5 := kl_step hb5 HT.out.2.2
  clear hb5 HT HC p0 p1 p2 p3 p4 p5 p6 p7 p8 q0 q1 q2 q3 q4 q5 q6 q7 q8
  go_wp2
  go_ret
  exact ⟨ret_one (congrArg Value.bool HI2.out.symm), hB5⟩

/-- Two deeds that are read. -/
def Two9 (ba oa bb ob : Nat) (x y : Dv) (w0 w' : World) : Prop :=
  ((w'.cell? ⟨ba, oa, none⟩ = some (.int .i64 x.d.kind) ∧ w'.cell? ⟨ba, oa + 1, none⟩ = some (.int .i64 x.d.no) ∧ w'.cell? ⟨ba, oa + 2, none⟩ = some (.int .i64 x.d.x.no) ∧ w'.cell? ⟨ba, oa + 3, none⟩ = some (.int .i64 x.d.x.kind) ∧ w'.cell? ⟨ba, oa + 4, none⟩ = some (.int .i64 x.d.x.links) ∧ w'.cell? ⟨ba, oa + 5, none⟩ = some (.int .i64 x.d.x.size) ∧ w'.cell? ⟨ba, oa + 6, none⟩ = some (.string x.d.x.t) ∧ w'.cell? ⟨ba, oa + 7, none⟩ = some (x.ev) ∧ w'.cell? ⟨ba, oa + 8, none⟩ = some (x.rv)) ∧
   (w'.cell? ⟨bb, ob, none⟩ = some (.int .i64 y.d.kind) ∧ w'.cell? ⟨bb, ob + 1, none⟩ = some (.int .i64 y.d.no) ∧ w'.cell? ⟨bb, ob + 2, none⟩ = some (.int .i64 y.d.x.no) ∧ w'.cell? ⟨bb, ob + 3, none⟩ = some (.int .i64 y.d.x.kind) ∧ w'.cell? ⟨bb, ob + 4, none⟩ = some (.int .i64 y.d.x.links) ∧ w'.cell? ⟨bb, ob + 5, none⟩ = some (.int .i64 y.d.x.size) ∧ w'.cell? ⟨bb, ob + 6, none⟩ = some (.string y.d.x.t) ∧ w'.cell? ⟨bb, ob + 7, none⟩ = some (y.ev) ∧ w'.cell? ⟨bb, ob + 8, none⟩ = some (y.rv))) ∧ Below w0.heap.size w0 w'
theorem Two9.step {ba oa bb ob : Nat} {x y : Dv} {w0 w w' : World} (hb : Below w.heap.size w w') (h : Two9 ba oa bb ob x y w0 w) : Two9 ba oa bb ob x y w0 w' := by
  obtain ⟨⟨⟨h0, h1, h2, h3, h4, h5, h6, h7, h8⟩, g0, g1, g2, g3, g4, g5, g6, g7, g8⟩, h⟩ := h
  exact ⟨⟨⟨kl_cell hb h0, kl_cell hb h1, kl_cell hb h2, kl_cell hb h3, kl_cell hb h4, kl_cell hb h5, kl_cell hb h6, kl_cell hb h7, kl_cell hb h8⟩, kl_cell hb g0, kl_cell hb g1, kl_cell hb g2, kl_cell hb g3, kl_cell hb g4, kl_cell hb g5, kl_cell hb g6, kl_cell hb g7, kl_cell hb g8⟩, h.trans (hb.mono h.size)⟩

/-- Two deeds at one place. -/
theorem sameL_no {xs ys : List Dv} {k : Nat} (hk : k < xs.length) (h : sameD (xs.getD k default).d (ys.getD k default).d = false) : sameL (xs.map Dv.d) (ys.map Dv.d) = false := by
  refine decide_eq_false ?_
  rintro ⟨hl, h2⟩
  simp only [List.length_map] at hl h2
  have hx := h2 k hk
  rw [show (xs.map Dv.d).getD k default = (xs.getD k default).d from by simp [List.getD, List.getElem?_eq_getElem hk], show (ys.map Dv.d).getD k default = (ys.getD k default).d from by simp [List.getD, List.getElem?_eq_getElem (show k < ys.length by omega)], h] at hx
  cases hx
theorem sameL_yes {xs ys : List Dv} (hl : xs.length = ys.length) (h : ∀ k, k < xs.length → sameD (xs.getD k default).d (ys.getD k default).d = true) : sameL (xs.map Dv.d) (ys.map Dv.d) = true := by
  refine decide_eq_true ⟨by simpa using hl, ?_⟩
  intro k hk
  rw [List.length_map] at hk
  rw [show (xs.map Dv.d).getD k default = (xs.getD k default).d from by simp [List.getD, List.getElem?_eq_getElem hk], show (ys.map Dv.d).getD k default = (ys.getD k default).d from by simp [List.getD, List.getElem?_eq_getElem (show k < ys.length by omega)]]
  exact h k hk

set_option maxHeartbeats 8000000 in
theorem SameDs_any (w : World) (a b : Value) (xs ys : List Dv) (ha : DRow w a xs) (hb : DRow w b ys) :
    Calls Try.prog 16 #[a, b, .func (.func 17) #[] #[]] w (SaysB (sameL (xs.map Dv.d) (ys.map Dv.d)) w) := by
  have hla := ha.lenRun
  have hlb := hb.lenRun
  have hxm := ha.len
  unfold maxLen at hxm
  have HA := hide ha
  have HB := hide hb
  clear ha hb
  by_cases hn : xs.length = ys.length
  · obtain ⟨len, hL⟩ : ∃ n, xs.length = n := ⟨_, rfl⟩
    have HX := hide hL
    have HY := hide (hn.symm.trans hL)
    simp only [← hn] at hlb
    rw [hL] at hxm
    simp only [hL] at hla hlb
    clear hL hn
    go_enter Try.func16, Try.ntmps16
    go_wp2
    go_loopw [7] (fun i wr => ∃ k : Nat, k ≤ len ∧ i = .int .i64 k ∧ (∀ j, j < k → sameD (xs.getD j default).d (ys.getD j default).d = true) ∧ Below w.heap.size w wr) (fun i _ => len - (intOf i).toNat)
    case atStart => exact ⟨0, Nat.zero_le _, rfl, by intro j hj; omega, Below.refl _ _⟩
    case round =>
      obtain ⟨k, hk, rfl, htk, hbk⟩ := hrel
      have HT := hide htk
      clear htk
      by_cases hlt : k < len
      · have hlt' : (k : Int) < len := by omega
        have hkx : k < xs.length := by rw [HX.out]; exact hlt
        have hky : k < ys.length := by rw [HY.out]; exact hlt
        obtain ⟨ba, oa, hsa, hia, pa⟩ := (HA.out.below hbk).idx k hkx
        obtain ⟨bb, ob, hsb, hib, pb⟩ := (HB.out.below hbk).idx k hky
        have hmf := fun h => sameL_no (ys := ys) hkx h
        have hmt : sameD (xs.getD k default).d (ys.getD k default).d = true → ∀ j, j < k + 1 → sameD (xs.getD j default).d (ys.getD j default).d = true := fun h j hj => by
          rcases Nat.lt_succ_iff_lt_or_eq.1 hj with hj | rfl
          · exact HT.out j hj
          · exact h
        have hra := (HA.out.below hbk).2 (xs.getD k default) (by rw [List.getD, List.getElem?_eq_getElem hkx]; exact List.getElem_mem hkx)
        have hrb := (HB.out.below hbk).2 (ys.getD k default) (by rw [List.getD, List.getElem?_eq_getElem hky]; exact List.getElem_mem hky)
        generalize xs.getD k default = x at *
        generalize ys.getD k default = y at *
        obtain ⟨⟨k1, n1, ⟨a1, b1, c1, e1, t1, es1, rs1⟩⟩, ev1, rv1⟩ := x
        obtain ⟨⟨k2, n2, ⟨a2, b2, c2, e2, t2, es2, rs2⟩⟩, ev2, rv2⟩ := y
        obtain ⟨hea, hra⟩ := hra
        obtain ⟨heb, hrb⟩ := hrb
        simp only at hea hra heb hrb hmt hmf
        have hon := hide (fun w' (hb : Below wr.heap.size wr w') => SameD_any w' k1 n1 a1 b1 c1 e1 t1 ev1 rv1 es1 rs1 k2 n2 a2 b2 c2 e2 t2 ev2 rv2 es2 rs2 (hea.below hb) (hra.below hb) (heb.below hb) (hrb.below hb))
        have HS : Hid (Two9 ba oa bb ob ⟨⟨k1, n1, ⟨a1, b1, c1, e1, t1, es1, rs1⟩⟩, ev1, rv1⟩ ⟨⟨k2, n2, ⟨a2, b2, c2, e2, t2, es2, rs2⟩⟩, ev2, rv2⟩ wr wr) := hide ⟨⟨⟨pa 0 _ rfl, pa 1 _ rfl, pa 2 _ rfl, pa 3 _ rfl, pa 4 _ rfl, pa 5 _ rfl, pa 6 _ rfl, pa 7 _ rfl, pa 8 _ rfl⟩, pb 0 _ rfl, pb 1 _ rfl, pb 2 _ rfl, pb 3 _ rfl, pb 4 _ rfl, pb 5 _ rfl, pb 6 _ rfl, pb 7 _ rfl, pb 8 _ rfl⟩, Below.refl _ _⟩
        have HMT := hide hmt
        have HMF := hide hmf
        have HBK := hide hbk
        clear hmt hmf hbk hea hra heb hrb
        have p0 : wr.cell? ⟨ba, oa, none⟩ = some (.int .i64 k1) := pa 0 _ rfl
        have p1 : wr.cell? ⟨ba, oa + 1, none⟩ = some (.int .i64 n1) := pa 1 _ rfl
        have p2 : wr.cell? ⟨ba, oa + 2, none⟩ = some (.int .i64 a1) := pa 2 _ rfl
        have p3 : wr.cell? ⟨ba, oa + 3, none⟩ = some (.int .i64 b1) := pa 3 _ rfl
        have p4 : wr.cell? ⟨ba, oa + 4, none⟩ = some (.int .i64 c1) := pa 4 _ rfl
        have p5 : wr.cell? ⟨ba, oa + 5, none⟩ = some (.int .i64 e1) := pa 5 _ rfl
        have p6 : wr.cell? ⟨ba, oa + 6, none⟩ = some (.string t1) := pa 6 _ rfl
        have p7 : wr.cell? ⟨ba, oa + 7, none⟩ = some (ev1) := pa 7 _ rfl
        have p8 : wr.cell? ⟨ba, oa + 8, none⟩ = some (rv1) := pa 8 _ rfl
        have q0 : wr.cell? ⟨bb, ob, none⟩ = some (.int .i64 k2) := pb 0 _ rfl
        have q1 : wr.cell? ⟨bb, ob + 1, none⟩ = some (.int .i64 n2) := pb 1 _ rfl
        have q2 : wr.cell? ⟨bb, ob + 2, none⟩ = some (.int .i64 a2) := pb 2 _ rfl
        have q3 : wr.cell? ⟨bb, ob + 3, none⟩ = some (.int .i64 b2) := pb 3 _ rfl
        have q4 : wr.cell? ⟨bb, ob + 4, none⟩ = some (.int .i64 c2) := pb 4 _ rfl
        have q5 : wr.cell? ⟨bb, ob + 5, none⟩ = some (.int .i64 e2) := pb 5 _ rfl
        have q6 : wr.cell? ⟨bb, ob + 6, none⟩ = some (.string t2) := pb 6 _ rfl
        have q7 : wr.cell? ⟨bb, ob + 7, none⟩ = some (ev2) := pb 7 _ rfl
        have q8 : wr.cell? ⟨bb, ob + 8, none⟩ = some (rv2) := pb 8 _ rfl
        clear pa pb
        clear p0 q0 p1 q1 p2 q2 p3 q3 p4 q4 p5 q5 p6 q6 p7 q7 p8 q8
        generalize hd : sameD ⟨k1, n1, ⟨a1, b1, c1, e1, t1, es1, rs1⟩⟩ ⟨k2, n2, ⟨a2, b2, c2, e2, t2, es2, rs2⟩⟩ = d at *
        have HD := hide hd
        clear hd
        go_wp2_with fail
        go_region_held3 (fun w' => ((w'.cell? ⟨ba, oa, none⟩ = some (.int .i64 k1) ∧ w'.cell? ⟨ba, oa + 1, none⟩ = some (.int .i64 n1) ∧ w'.cell? ⟨ba, oa + 2, none⟩ = some (.int .i64 a1) ∧ w'.cell? ⟨ba, oa + 3, none⟩ = some (.int .i64 b1) ∧ w'.cell? ⟨ba, oa + 4, none⟩ = some (.int .i64 c1) ∧ w'.cell? ⟨ba, oa + 5, none⟩ = some (.int .i64 e1) ∧ w'.cell? ⟨ba, oa + 6, none⟩ = some (.string t1) ∧ w'.cell? ⟨ba, oa + 7, none⟩ = some (ev1) ∧ w'.cell? ⟨ba, oa + 8, none⟩ = some (rv1)) ∧
   (w'.cell? ⟨bb, ob, none⟩ = some (.int .i64 k2) ∧ w'.cell? ⟨bb, ob + 1, none⟩ = some (.int .i64 n2) ∧ w'.cell? ⟨bb, ob + 2, none⟩ = some (.int .i64 a2) ∧ w'.cell? ⟨bb, ob + 3, none⟩ = some (.int .i64 b2) ∧ w'.cell? ⟨bb, ob + 4, none⟩ = some (.int .i64 c2) ∧ w'.cell? ⟨bb, ob + 5, none⟩ = some (.int .i64 e2) ∧ w'.cell? ⟨bb, ob + 6, none⟩ = some (.string t2) ∧ w'.cell? ⟨bb, ob + 7, none⟩ = some (ev2) ∧ w'.cell? ⟨bb, ob + 8, none⟩ = some (rv2))) ∧ Below wr.heap.size wr w')
          (first
            | assumption
            | exact Two9.step (kl_drew _) HS.out
            | exact Two9.step hb9 (show Two9 ba oa bb ob ⟨⟨k1, n1, ⟨a1, b1, c1, e1, t1, es1, rs1⟩⟩, ev1, rv1⟩ ⟨⟨k2, n2, ⟨a2, b2, c2, e2, t2, es2, rs2⟩⟩, ev2, rv2⟩ wr _ by assumption)
            | fail)
          (first
            | (go_at_call 17; refine (hon.out _ (by first | exact (show Two9 ba oa bb ob ⟨⟨k1, n1, ⟨a1, b1, c1, e1, t1, es1, rs1⟩⟩, ev1, rv1⟩ ⟨⟨k2, n2, ⟨a2, b2, c2, e2, t2, es2, rs2⟩⟩, ev2, rv2⟩ wr _ by assumption).2 | exact kl_drew _)).mono ?_; rintro x w9 ⟨rfl, hb9⟩)
            | fail)
        have hX : Two9 ba oa bb ob ⟨⟨k1, n1, ⟨a1, b1, c1, e1, t1, es1, rs1⟩⟩, ev1, rv1⟩ ⟨⟨k2, n2, ⟨a2, b2, c2, e2, t2, es2, rs2⟩⟩, ev2, rv2⟩ wr w9 := by assumption
        have hB9 : Below w.heap.size w w9 := HBK.out.trans (hX.2.mono HBK.out.size)
        clear hX hb9
        cases d with
        | true =>
          have HN := hide (HMT.out rfl)
          go_wp2
          exact ⟨⟨k + 1, by omega, by go_num, HN.out, hB9⟩, by simp [intOf]; omega⟩
        | false =>
          have HN := hide (HMF.out rfl)
          go_wp2
          go_ret
          exact ⟨ret_one (congrArg Value.bool HN.out.symm), hB9⟩
      · obtain rfl : k = len := by omega
        have HD := hide (sameL_yes (HX.out.trans HY.out.symm) (fun j hj => HT.out j (by rw [← HX.out]; exact hj)))
        go_wp2
        go_ret
        exact ⟨ret_one (congrArg Value.bool HD.out.symm), hbk⟩
  · have hne : ((xs.length : Int) != (ys.length : Int)) = true := by simp; omega
    rw [show sameL (xs.map Dv.d) (ys.map Dv.d) = false from decide_eq_false (fun e => hn (by simpa using e.1))]
    generalize xs.length = n at *
    generalize ys.length = m at *
    clear hn
    go_enter Try.func16, Try.ntmps16
    go_wp2
    go_ret
    exact ⟨rfl, Below.refl _ _⟩
end Go.Proofs.Ytgkmgpjhpplkiaa
