/-
  The program's reader: a deed.
-/
import Derived.Test.YtgkmgpjhpplkiaaPackN
import Derived.Test.YtgkmgpjhpplkiaaPackC
import Derived.Test.YtgkmgpjhpplkiaaPackR
import Derived.Deep.CutBlock
import Derived.Deep.DeepCutAuto
namespace Go.Proofs.Ytgkmgpjhpplkiaa
open Go.RowKit
set_option linter.unusedVariables false
set_option maxRecDepth 100000

theorem drop_cons {xs : List Int} {a : Nat} (h : a < xs.length) : xs.drop a = xs.getD a 0 :: xs.drop (a + 1) := by
  rw [List.drop_eq_getElem_cons h]
  simp [List.getD, List.getElem?_eq_getElem h]

theorem getS1 {xs : List Int} {a : Nat} (h : a < xs.length) : getS xs a 1 = (xs.getD a 0, 0) := by
  have e := getS_inP (xs := xs) (a := a) (n := 1) (by omega) (by omega) (by omega)
  rw [show ((1 : Nat) : Int) = 1 from rfl] at e
  rw [e]
  have e2 : (xs.drop a).take 1 = [xs.getD a 0] := by
    rw [drop_cons h]
    rfl
  rw [e2]
  simp [num]
/-- What comes of the deed at a place. -/
def NextP (xs : List Int) (a1 : Nat) (q : Option (Dd × List Int)) (x : Dd) (at' er : Int) : Prop :=
  match q with
  | none => er = 3
  | some p => er = 0 ∧ x = p.1 ∧ ∃ a' : Nat, at' = a' ∧ p.2 = xs.drop a' ∧ a1 ≤ a' ∧ a' ≤ xs.length
def NextD (xs : List Int) (a : Nat) (x : Dd) (at' er : Int) : Prop :=
  if xs.getD a 0 < 1 ∨ 4 < xs.getD a 0 then er = 5 else NextP xs (a + 1) (deedD (xs.getD a 0) (xs.drop (a + 1))) x at' er
theorem next_of {α : Type} {xs : List Int} {d : Dec α} {r : Rd → α × Rd} (h : Rds xs d r) (f : α → Dd) {a1 : Nat} (ha : a1 ≤ xs.length) :
    NextP xs a1 (mapD f d (xs.drop a1)) (f (r ⟨a1, false⟩).1) (r ⟨a1, false⟩).2.at_ (erN (r ⟨a1, false⟩).2.bad) := by
  have hm := h.map f
  unfold NextP
  cases hc : mapD f d (xs.drop a1) with
  | none =>
    have := hm.no a1 ha hc
    unfold mapR at this
    dsimp only at this ⊢
    rw [this]
    rfl
  | some p =>
    obtain ⟨v, ys⟩ := p
    obtain ⟨a', e, hy, h1, h2⟩ := hm.yes a1 v ys ha hc
    unfold mapR at e
    simp only [Prod.mk.injEq] at e
    dsimp only
    rw [e.2]
    exact ⟨rfl, e.1, a', rfl, hy, h1, h2⟩

theorem grown7at (V : World) (B : Nat) (i0 i1 i2 i3 i4 i5 i6 : Nat) (v0 v1 v2 v3 v4 v5 v6 : Value) : V.grownBy (((((((V.setCell ⟨B, i0, none⟩ v0).setCell ⟨B, i1, none⟩ v1).setCell ⟨B, i2, none⟩ v2).setCell ⟨B, i3, none⟩ v3).setCell ⟨B, i4, none⟩ v4).setCell ⟨B, i5, none⟩ v5).setCell ⟨B, i6, none⟩ v6) (some B) :=
  grown_trans (grown_trans (grown_trans (grown_trans (grown_trans (grown_trans (grown_setCell _ _ _ _) (grown_setCell _ _ _ _)) (grown_setCell _ _ _ _)) (grown_setCell _ _ _ _)) (grown_setCell _ _ _ _)) (grown_setCell _ _ _ _)) (grown_setCell _ _ _ _)
theorem grown9 (V : World) (B : Nat) (v0 v1 v2 v3 v4 v5 v6 v7 v8 : Value) : V.grownBy (((((((((V.setCell ⟨B, 0, none⟩ v0).setCell ⟨B, 1, none⟩ v1).setCell ⟨B, 2, none⟩ v2).setCell ⟨B, 3, none⟩ v3).setCell ⟨B, 4, none⟩ v4).setCell ⟨B, 5, none⟩ v5).setCell ⟨B, 6, none⟩ v6).setCell ⟨B, 7, none⟩ v7).setCell ⟨B, 8, none⟩ v8) (some B) :=
  grown_trans (grown_trans (grown7 V B v0 v1 v2 v3 v4 v5 v6) (grown_setCell _ _ _ _)) (grown_setCell _ _ _ _)
theorem dv_num {k n : Int} (hk : (Lit.int .i64 k).wf = true) (hn : (Lit.int .i64 n).wf = true) : Dv.Wf ⟨⟨k, n, noI⟩, .slice none 0 0, .slice none 0 0⟩ :=
  ⟨hk, hn, wf_i64 (by simp [noI]) (by simp [noI]), wf_i64 (by simp [noI]) (by simp [noI]), wf_i64 (by simp [noI]) (by simp [noI]), wf_i64 (by simp [noI]) (by simp [noI]), by simp [noI], rfl, rfl⟩

/-- Answers such a deed. -/
def SaysD (xs : List Int) (a P : Nat) (b : Value) (w : World) (e : Ending) (w' : World) : Prop :=
  ∃ (x : Dv) (at' er : Int), e = .returned (.agg x.cells.toArray) ∧ x.Wf ∧ EOwn w.heap.size w' x.ev x.d.x.es ∧ ROwn w.heap.size w' x.rv x.d.x.rs ∧ Blk w' P #[b, .int .i64 at', .int .i64 er] 53 ∧ w.grownBy w' (some P) ∧ NextD xs a x.d at' er

set_option maxHeartbeats 8000000 in
theorem PDeed_any (w : World) (P : Nat) (b : Value) (xs : List Int) (a : Nat) (hB : RdQ w P b ⟨a, false⟩) (hr : RowP w P b xs) (ha : a < xs.length) (hx : xs.length ≤ 1000000) :
    Calls Try.prog 21 #[.pointer (some ⟨P, 0, none⟩)] w (SaysD xs a P b w) := by
  have hby := (hr w (World.grownBy.refl _ _)).bys
  have HC1 := hide (fun w' (hb : RdQ w' P b ⟨a, false⟩) (hg : w.grownBy w' (some P)) => PBytes_any w' P b xs ⟨a, false⟩ 1 hb (hr w' hg) (by dsimp only; omega) (by dsimp only; omega) (by omega) (by omega))
  have hg1 : gdR 0 (rdBy xs 1) ⟨a, false⟩ = (xs.getD a 0, ⟨((a + 1 : Nat) : Int), false⟩) := by
    unfold gdR rdBy
    rw [if_neg (by simp)]
    dsimp only
    rw [getS1 ha]
    rfl
  rw [hg1] at HC1
  have hk := hby.at a
  have hdr := drop_cons ha
  have HFin := hide (fun (x : Dv) (at' er : Int) (e : Ending) (w' : World) (h1 : e = .returned (.agg x.cells.toArray)) (h2 : x.Wf) (h3 : EOwn w.heap.size w' x.ev x.d.x.es) (h4 : ROwn w.heap.size w' x.rv x.d.x.rs) (h5 : Blk w' P #[b, .int .i64 at', .int .i64 er] 53) (h6 : w.grownBy w' (some P))
    (h7 : if xs.getD a 0 < 1 ∨ 4 < xs.getD a 0 then er = 5 else NextP xs (a + 1) (deedD (xs.getD a 0) (xs.drop (a + 1))) x.d at' er) => (show SaysD xs a P b w e w' from ⟨x, at', er, h1, h2, h3, h4, h5, h6, h7⟩))
  generalize hG : SaysD xs a P b w = G at *
  clear hG
  generalize hkk : xs.getD a 0 = k at *
  have hS1 : InS xs 8 ⟨((a + 1 : Nat) : Int), false⟩ := ⟨by dsimp only; omega, by dsimp only; omega, fun _ => by dsimp only; omega⟩
  have HN := hide (fun w' (hb : RdQ w' P b ⟨((a + 1 : Nat) : Int), false⟩) (hg : w.grownBy w' (some P)) => PNumber_any w' P b xs ⟨((a + 1 : Nat) : Int), false⟩ hb (hr w' hg) (by dsimp only; omega) (by dsimp only; omega))
  have HI := hide (fun w' (hb : RdQ w' P b ⟨((a + 1 : Nat) : Int), false⟩) (hg : w.grownBy w' (some P)) => PInode_any w' P b xs ⟨((a + 1 : Nat) : Int), false⟩ hb (hr.to hg) hS1 hx)
  have HX1 := hide (next_of ((num_rds xs).gd 0) (fun v => (⟨k, v, noI⟩ : Dd)) (show a + 1 ≤ xs.length by omega))
  have HX2 := hide (next_of (ino_rdsP hby) (fun x => (⟨2, 0, x⟩ : Dd)) (show a + 1 ≤ xs.length by omega))
  have hwn := gnum_wf xs ⟨((a + 1 : Nat) : Int), false⟩
  generalize (gdR 0 (rdNum xs) ⟨((a + 1 : Nat) : Int), false⟩).1 = nv at *
  generalize (gdR 0 (rdNum xs) ⟨((a + 1 : Nat) : Int), false⟩).2 = ns at *
  generalize rdInoP xs ⟨((a + 1 : Nat) : Int), false⟩ = ri at *
  obtain ⟨ix, is⟩ := ri
  have HB := hide hB
  have HPL := hide hB.lt
  have HWN := hide hwn
  clear hB hr hg1 hby hdr hkk hwn hS1 hx ha
  have hba := kl_alloc w (.cells #[.int .i64 0, .int .i64 0, .int .i64 0, .int .i64 0, .int .i64 0, .int .i64 0, .string ⟨#[]⟩, .slice none 0 0, .slice none 0 0] 38)
  have hbl := Blk.new w #[.int .i64 0, .int .i64 0, .int .i64 0, .int .i64 0, .int .i64 0, .int .i64 0, .string ⟨#[]⟩, .slice none 0 0, .slice none 0 0] 38
  have HB0 := hide (show RdQ _ P b ⟨a, false⟩ from kl_blk hba HB.out)
  have HG0 := hide (below_grown hba (some P))
  have HR0 := hide hbl
  have HZ0 := hide (show w.heap.size + 1 ≤ (w.alloc (.cells #[.int .i64 0, .int .i64 0, .int .i64 0, .int .i64 0, .int .i64 0, .int .i64 0, .string ⟨#[]⟩, .slice none 0 0, .slice none 0 0] 38)).heap.size by simp)
  clear hba hbl HB
  go_enter Try.func21, Try.ntmps21
  go_upto_region 1 with fail
  generalize w.alloc (.cells #[.int .i64 0, .int .i64 0, .int .i64 0, .int .i64 0, .int .i64 0, .int .i64 0, .string ⟨#[]⟩, .slice none 0 0, .slice none 0 0] 38) = W0 at *
  generalize hA : w.heap.size = R at *
  have HAE := hide hA
  have HNE := hide (show some R ≠ some P by intro e; have e' := Option.some.inj e; have := HPL.out; omega)
  clear hA
  obtain ⟨hk0, hk1⟩ := hk
  go_wp2_with fail
  refine (HC1.out W0 HB0.out HG0.out).mono ?_
  rintro e w1 ⟨rfl, hq, hg⟩
  have HB1 := hide hq
  have HR1 := hide (HR0.out.kept hg HNE.out)
  have HG1 := hide (grown_trans HG0.out hg)
  have HZ1 := hide (Nat.le_trans HZ0.out hg.size)
  clear hq hg HB0 HR0 HG0 HZ0
  go_upto_region 2 with fail
  have hba := kl_alloc w1 (.cells #[.int .i64 k, .int .i64 0, .int .i64 0, .int .i64 0, .int .i64 0, .int .i64 0, .string ⟨#[]⟩, .slice none 0 0, .slice none 0 0] 38)
  have hbl := Blk.new w1 #[.int .i64 k, .int .i64 0, .int .i64 0, .int .i64 0, .int .i64 0, .int .i64 0, .string ⟨#[]⟩, .slice none 0 0, .slice none 0 0] 38
  have HB2 := hide (show RdQ _ P b ⟨((a + 1 : Nat) : Int), false⟩ from kl_blk hba HB1.out)
  have HR2 := hide (kl_blk hba HR1.out)
  have HG2 := hide (grown_trans HG1.out (below_grown hba (some P)))
  have HD2 := hide hbl
  have HZ2 := hide (Nat.le_trans HZ1.out hba.size)
  clear hba hbl HB1 HR1 HG1
  generalize w1.alloc (.cells #[.int .i64 k, .int .i64 0, .int .i64 0, .int .i64 0, .int .i64 0, .int .i64 0, .string ⟨#[]⟩, .slice none 0 0, .slice none 0 0] 38) = V at *
  generalize hD : w1.heap.size = D at *
  have HND := hide (show some D ≠ some P by intro e; have e' := Option.some.inj e; have := HPL.out; have := HZ1.out; omega)
  have hRD : R ≠ D := by have := HZ1.out; omega
  have HRD := hide hRD
  have HDL := hide (show R < D by have := HZ1.out; omega)
  clear hD hRD HZ1
  have d0 : V.cell? ⟨D, 0, none⟩ = some (.int .i64 k) := HD2.out.cell 0
  by_cases hkk : k = 1 ∨ k = 3 ∨ k = 4
  · have HK1 := hide (show ¬ (k < 1 ∨ 4 < k) by omega)
    have HX := hide (show NextP xs (a + 1) (deedD k (xs.drop (a + 1))) ⟨k, nv, noI⟩ ns.at_ (erN ns.bad) by unfold deedD; rw [if_pos hkk]; exact HX1.out)
    clear HX1 HX2 HI
    have d1 : V.cell? ⟨D, 1, none⟩ = some (.int .i64 0) := HD2.out.cell 1
    rcases hkk with rfl | rfl | rfl
    all_goals
      go_wp2_with fail
      refine (HN.out V HB2.out HG2.out).mono ?_
      rintro e w3 ⟨rfl, hq, hg⟩
      have HB3 := hide hq
      have HR3 := hide (HR2.out.kept hg HNE.out)
      have HD3 := hide (HD2.out.kept hg HND.out)
      have HG3 := hide (grown_trans HG2.out hg)
      clear hq hg d0 d1 HB2 HR2 HD2 HG2 HN
      have d1 : w3.cell? ⟨D, 1, none⟩ = some (.int .i64 0) := HD3.out.cell 1
      have f1 := HD3.out.frozen 1
      have HD4 := hide (show Blk (w3.setCell ⟨D, 1, none⟩ (.int .i64 nv)) D #[_, .int .i64 nv, .int .i64 0, .int .i64 0, .int .i64 0, .int .i64 0, .string ⟨#[]⟩, .slice none 0 0, .slice none 0 0] 38 from HD3.out.set 1 (.int .i64 nv))
      have HR4 := hide (HR3.out.kept (grown_setCell w3 D 1 (.int .i64 nv)) (by simpa using HRD.out))
      have HB4 := hide (show RdQ _ P b ns from Blk.kept HB3.out (grown_setCell w3 D 1 (.int .i64 nv)) (fun e => HND.out e.symm))
      have HG4 := hide (grown_mix HG3.out (grown_setCell w3 D 1 (.int .i64 nv)) (fun j e => by cases e; rw [HAE.out]; exact Nat.le_of_lt HDL.out))
      clear HB3 HR3 HD3 HG3
      go_upto_region 10 with fail
      generalize w3.setCell ⟨D, 1, none⟩ (.int .i64 nv) = V4 at *
      clear d1 f1
      have e0 := HD4.out.cell 0
      have e1 : V4.cell? ⟨D, 1, none⟩ = some (.int .i64 nv) := HD4.out.cell 1
      have e2 : V4.cell? ⟨D, 2, none⟩ = some (.int .i64 0) := HD4.out.cell 2
      have e3 : V4.cell? ⟨D, 3, none⟩ = some (.int .i64 0) := HD4.out.cell 3
      have e4 : V4.cell? ⟨D, 4, none⟩ = some (.int .i64 0) := HD4.out.cell 4
      have e5 : V4.cell? ⟨D, 5, none⟩ = some (.int .i64 0) := HD4.out.cell 5
      have e6 : V4.cell? ⟨D, 6, none⟩ = some (.string ⟨#[]⟩) := HD4.out.cell 6
      have e7 : V4.cell? ⟨D, 7, none⟩ = some (.slice none 0 0) := HD4.out.cell 7
      have e8 : V4.cell? ⟨D, 8, none⟩ = some (.slice none 0 0) := HD4.out.cell 8
      simp only [List.getElem?_toArray, List.getElem?_cons_zero] at e0
      have z0 : V4.cell? ⟨R, 0, none⟩ = some (.int .i64 0) := HR4.out.cell 0
      have y0 := HR4.out.frozen 0
      have z1 : V4.cell? ⟨R, 1, none⟩ = some (.int .i64 0) := HR4.out.cell 1
      have y1 := HR4.out.frozen 1
      have z2 : V4.cell? ⟨R, 2, none⟩ = some (.int .i64 0) := HR4.out.cell 2
      have y2 := HR4.out.frozen 2
      have z3 : V4.cell? ⟨R, 3, none⟩ = some (.int .i64 0) := HR4.out.cell 3
      have y3 := HR4.out.frozen 3
      have z4 : V4.cell? ⟨R, 4, none⟩ = some (.int .i64 0) := HR4.out.cell 4
      have y4 := HR4.out.frozen 4
      have z5 : V4.cell? ⟨R, 5, none⟩ = some (.int .i64 0) := HR4.out.cell 5
      have y5 := HR4.out.frozen 5
      have z6 : V4.cell? ⟨R, 6, none⟩ = some (.string ⟨#[]⟩) := HR4.out.cell 6
      have y6 := HR4.out.frozen 6
      have z7 : V4.cell? ⟨R, 7, none⟩ = some (.slice none 0 0) := HR4.out.cell 7
      have y7 := HR4.out.frozen 7
      have z8 : V4.cell? ⟨R, 8, none⟩ = some (.slice none 0 0) := HR4.out.cell 8
      have y8 := HR4.out.frozen 8
      go_wp2
      refine bodyPost_ret (results_cell_row rfl _ _ R 38 _ (0, 0) _ rfl (blk_over9 HR4.out _ _ _ _ _ _ _ _ _) Try.underlying38 rfl (by kernel_rfl)) rfl (HFin.out ⟨⟨_, nv, noI⟩, .slice none 0 0, .slice none 0 0⟩ _ _ _ _ rfl (dv_num (wf_i64 (by decide) (by decide)) HWN.out) (EOwn.nil _ _) (ROwn.nil _ _) (Blk.kept HB4.out (grown9 _ _ _ _ _ _ _ _ _ _ _) (fun e => HNE.out e.symm)) ?_ ?_)
      · exact grown_mix HG4.out (grown9 _ _ _ _ _ _ _ _ _ _ _) (fun j e => by cases e; rw [HAE.out]; exact Nat.le_refl _)
      · rw [if_neg HK1.out]; exact HX.out
  · by_cases hk2 : k = 2
    · subst hk2
      have HX := hide (show NextP xs (a + 1) (deedD 2 (xs.drop (a + 1))) ⟨2, 0, ix⟩ is.at_ (erN is.bad) by unfold deedD; rw [if_neg (by decide)]; exact HX2.out)
      clear HX1 HX2 HN hkk
      go_wp2_with fail
      refine (HI.out V HB2.out HG2.out).mono ?_
      rintro e w3 ⟨ev, rv, rfl, hwf, hev, hrv, hq, hg⟩
      have HB3 := hide hq
      have HR3 := hide (HR2.out.kept hg HNE.out)
      have HD3 := hide (HD2.out.kept hg HND.out)
      have HG3 := hide (grown_trans HG2.out hg)
      have HEV := hide hev
      have HRV := hide hrv
      have HWI := hide hwf
      have HVL := hide (show D < V.heap.size from HD2.out.lt)
      dsimp only at HB3 HEV HRV HWI
      obtain ⟨ino, ikind, ilinks, isize, it, es, rs⟩ := ix
      dsimp only [inoCells] at HEV HRV HWI ⊢
      obtain ⟨ea, ec, hea⟩ := HEV.out.row.of_len
      generalize es.length = le at hea
      subst hea
      obtain ⟨ra, rc, hra⟩ := HRV.out.row.of_len
      generalize rs.length = lr at hra
      subst hra
      clear hq hg d0 HB2 HR2 HD2 HG2 HI hwf hev hrv
      have d2 : w3.cell? ⟨D, 2, none⟩ = some (.int .i64 0) := HD3.out.cell 2
      have f2 := HD3.out.frozen 2
      have d3 : w3.cell? ⟨D, 3, none⟩ = some (.int .i64 0) := HD3.out.cell 3
      have f3 := HD3.out.frozen 3
      have d4 : w3.cell? ⟨D, 4, none⟩ = some (.int .i64 0) := HD3.out.cell 4
      have f4 := HD3.out.frozen 4
      have d5 : w3.cell? ⟨D, 5, none⟩ = some (.int .i64 0) := HD3.out.cell 5
      have f5 := HD3.out.frozen 5
      have d6 : w3.cell? ⟨D, 6, none⟩ = some (.string ⟨#[]⟩) := HD3.out.cell 6
      have f6 := HD3.out.frozen 6
      have d7 : w3.cell? ⟨D, 7, none⟩ = some (.slice none 0 0) := HD3.out.cell 7
      have f7 := HD3.out.frozen 7
      have d8 : w3.cell? ⟨D, 8, none⟩ = some (.slice none 0 0) := HD3.out.cell 8
      have f8 := HD3.out.frozen 8
      have HD4 := hide (show Blk (((((((w3.setCell ⟨D, 2, none⟩ (.int .i64 ino)).setCell ⟨D, 3, none⟩ (.int .i64 ikind)).setCell ⟨D, 4, none⟩ (.int .i64 ilinks)).setCell ⟨D, 5, none⟩ (.int .i64 isize)).setCell ⟨D, 6, none⟩ (.string it)).setCell ⟨D, 7, none⟩ (.slice ea le ec)).setCell ⟨D, 8, none⟩ (.slice ra lr rc)) D #[.int .i64 2, .int .i64 0, .int .i64 ino, .int .i64 ikind, .int .i64 ilinks, .int .i64 isize, .string it, .slice ea le ec, .slice ra lr rc] 38 from (((((((HD3.out.set 2 (.int .i64 ino)).set 3 (.int .i64 ikind)).set 4 (.int .i64 ilinks)).set 5 (.int .i64 isize)).set 6 (.string it)).set 7 (.slice ea le ec)).set 8 (.slice ra lr rc)))
      have hg7 := grown7at w3 D 2 3 4 5 6 7 8 (.int .i64 ino) (.int .i64 ikind) (.int .i64 ilinks) (.int .i64 isize) (.string it) (.slice ea le ec) (.slice ra lr rc)
      have HR4 := hide (HR3.out.kept hg7 (by simpa using HRD.out))
      have HB4 := hide (show RdQ _ P b is from Blk.kept HB3.out hg7 (fun e => HND.out e.symm))
      have HG4 := hide (grown_mix HG3.out hg7 (fun j e => by cases e; rw [HAE.out]; exact Nat.le_of_lt HDL.out))
      have HE4 := hide (HEV.out.grown hg7 (fun j e => by cases e; exact HVL.out))
      have HV4 := hide (HRV.out.grown hg7 (fun j e => by cases e; exact HVL.out))
      clear hg7 HB3 HR3 HD3 HG3 HEV HRV
      go_upto_region 10 with fail
      generalize (((((((w3.setCell ⟨D, 2, none⟩ (.int .i64 ino)).setCell ⟨D, 3, none⟩ (.int .i64 ikind)).setCell ⟨D, 4, none⟩ (.int .i64 ilinks)).setCell ⟨D, 5, none⟩ (.int .i64 isize)).setCell ⟨D, 6, none⟩ (.string it)).setCell ⟨D, 7, none⟩ (.slice ea le ec)).setCell ⟨D, 8, none⟩ (.slice ra lr rc)) = V4 at *
      clear d2 d3 d4 d5 d6 d7 d8 f2 f3 f4 f5 f6 f7 f8
      have e0 : V4.cell? ⟨D, 0, none⟩ = some (.int .i64 2) := HD4.out.cell 0
      have e1 : V4.cell? ⟨D, 1, none⟩ = some (.int .i64 0) := HD4.out.cell 1
      have e2 : V4.cell? ⟨D, 2, none⟩ = some (.int .i64 ino) := HD4.out.cell 2
      have e3 : V4.cell? ⟨D, 3, none⟩ = some (.int .i64 ikind) := HD4.out.cell 3
      have e4 : V4.cell? ⟨D, 4, none⟩ = some (.int .i64 ilinks) := HD4.out.cell 4
      have e5 : V4.cell? ⟨D, 5, none⟩ = some (.int .i64 isize) := HD4.out.cell 5
      have e6 : V4.cell? ⟨D, 6, none⟩ = some (.string it) := HD4.out.cell 6
      have e7 : V4.cell? ⟨D, 7, none⟩ = some (.slice ea le ec) := HD4.out.cell 7
      have e8 : V4.cell? ⟨D, 8, none⟩ = some (.slice ra lr rc) := HD4.out.cell 8
      have z0 : V4.cell? ⟨R, 0, none⟩ = some (.int .i64 0) := HR4.out.cell 0
      have y0 := HR4.out.frozen 0
      have z1 : V4.cell? ⟨R, 1, none⟩ = some (.int .i64 0) := HR4.out.cell 1
      have y1 := HR4.out.frozen 1
      have z2 : V4.cell? ⟨R, 2, none⟩ = some (.int .i64 0) := HR4.out.cell 2
      have y2 := HR4.out.frozen 2
      have z3 : V4.cell? ⟨R, 3, none⟩ = some (.int .i64 0) := HR4.out.cell 3
      have y3 := HR4.out.frozen 3
      have z4 : V4.cell? ⟨R, 4, none⟩ = some (.int .i64 0) := HR4.out.cell 4
      have y4 := HR4.out.frozen 4
      have z5 : V4.cell? ⟨R, 5, none⟩ = some (.int .i64 0) := HR4.out.cell 5
      have y5 := HR4.out.frozen 5
      have z6 : V4.cell? ⟨R, 6, none⟩ = some (.string ⟨#[]⟩) := HR4.out.cell 6
      have y6 := HR4.out.frozen 6
      have z7 : V4.cell? ⟨R, 7, none⟩ = some (.slice none 0 0) := HR4.out.cell 7
      have y7 := HR4.out.frozen 7
      have z8 : V4.cell? ⟨R, 8, none⟩ = some (.slice none 0 0) := HR4.out.cell 8
      have y8 := HR4.out.frozen 8
      have HRV4 := hide (show R < V.heap.size from Nat.lt_trans HDL.out HVL.out)
      go_wp2
      refine bodyPost_ret (results_cell_row rfl _ _ R 38 _ (0, 0) _ rfl (blk_over9 HR4.out _ _ _ _ _ _ _ _ _) Try.underlying38 rfl (by kernel_rfl)) rfl (HFin.out ⟨⟨2, 0, ⟨ino, ikind, ilinks, isize, it, es, rs⟩⟩, .slice ea le ec, .slice ra lr rc⟩ _ _ _ _ rfl ⟨wf_i64 (by simp) (by simp), wf_i64 (by simp) (by simp), HWI.out.no, HWI.out.kind, HWI.out.links, HWI.out.size, HWI.out.t, rfl, rfl⟩ ?_ ?_ (Blk.kept HB4.out (grown9 _ _ _ _ _ _ _ _ _ _ _) (fun e => HNE.out e.symm)) ?_ ?_)
      · exact (HE4.out.grown (grown9 _ _ _ _ _ _ _ _ _ _ _) (fun j e => by cases e; exact HRV4.out)).mono (Nat.le_of_lt HRV4.out)
      · exact (HV4.out.grown (grown9 _ _ _ _ _ _ _ _ _ _ _) (fun j e => by cases e; exact HRV4.out)).mono (Nat.le_of_lt HRV4.out)
      · exact grown_mix HG4.out (grown9 _ _ _ _ _ _ _ _ _ _ _) (fun j e => by cases e; rw [HAE.out]; exact Nat.le_refl _)
      · rw [if_neg (by decide)]; exact HX.out
    · have HK1 := hide (show k < 1 ∨ 4 < k by omega)
      have h1 : (k == 1) = false := by simp; omega
      have h2 : (k == 2) = false := by simp; omega
      have h3 : (k == 3) = false := by simp; omega
      have h4 : (k == 4) = false := by simp; omega
      have HKW := hide (show (Lit.int .i64 k).wf = true from wf_i64 (by omega) (by omega))
      clear HX1 HX2 HI HN hkk hk2
      have p2 : V.cell? ⟨P, 2, none⟩ = some (.int .i64 0) := HB2.out.cell 2
      have pf := HB2.out.frozen 2
      have HD4 := hide (HD2.out.kept (grown_setCell V P 2 (.int .i64 5)) HND.out)
      have HR4 := hide (HR2.out.kept (grown_setCell V P 2 (.int .i64 5)) HNE.out)
      have HB4 := hide (show Blk (V.setCell ⟨P, 2, none⟩ (.int .i64 5)) P #[b, .int .i64 ((a + 1 : Nat) : Int), .int .i64 5] 53 from HB2.out.set 2 (.int .i64 5))
      have HG4 := hide (grown_trans HG2.out (grown_setCell V P 2 (.int .i64 5)))
      clear HB2 HR2 HD2 HG2
      clear hk0 hk1
      go_upto_region 10 with fail
      generalize V.setCell ⟨P, 2, none⟩ (.int .i64 5) = V4 at *
      clear d0 p2 pf
      have e0 : V4.cell? ⟨D, 0, none⟩ = some (.int .i64 k) := HD4.out.cell 0
      have e1 : V4.cell? ⟨D, 1, none⟩ = some (.int .i64 0) := HD4.out.cell 1
      have e2 : V4.cell? ⟨D, 2, none⟩ = some (.int .i64 0) := HD4.out.cell 2
      have e3 : V4.cell? ⟨D, 3, none⟩ = some (.int .i64 0) := HD4.out.cell 3
      have e4 : V4.cell? ⟨D, 4, none⟩ = some (.int .i64 0) := HD4.out.cell 4
      have e5 : V4.cell? ⟨D, 5, none⟩ = some (.int .i64 0) := HD4.out.cell 5
      have e6 : V4.cell? ⟨D, 6, none⟩ = some (.string ⟨#[]⟩) := HD4.out.cell 6
      have e7 : V4.cell? ⟨D, 7, none⟩ = some (.slice none 0 0) := HD4.out.cell 7
      have e8 : V4.cell? ⟨D, 8, none⟩ = some (.slice none 0 0) := HD4.out.cell 8
      have z0 : V4.cell? ⟨R, 0, none⟩ = some (.int .i64 0) := HR4.out.cell 0
      have y0 := HR4.out.frozen 0
      have z1 : V4.cell? ⟨R, 1, none⟩ = some (.int .i64 0) := HR4.out.cell 1
      have y1 := HR4.out.frozen 1
      have z2 : V4.cell? ⟨R, 2, none⟩ = some (.int .i64 0) := HR4.out.cell 2
      have y2 := HR4.out.frozen 2
      have z3 : V4.cell? ⟨R, 3, none⟩ = some (.int .i64 0) := HR4.out.cell 3
      have y3 := HR4.out.frozen 3
      have z4 : V4.cell? ⟨R, 4, none⟩ = some (.int .i64 0) := HR4.out.cell 4
      have y4 := HR4.out.frozen 4
      have z5 : V4.cell? ⟨R, 5, none⟩ = some (.int .i64 0) := HR4.out.cell 5
      have y5 := HR4.out.frozen 5
      have z6 : V4.cell? ⟨R, 6, none⟩ = some (.string ⟨#[]⟩) := HR4.out.cell 6
      have y6 := HR4.out.frozen 6
      have z7 : V4.cell? ⟨R, 7, none⟩ = some (.slice none 0 0) := HR4.out.cell 7
      have y7 := HR4.out.frozen 7
      have z8 : V4.cell? ⟨R, 8, none⟩ = some (.slice none 0 0) := HR4.out.cell 8
      have y8 := HR4.out.frozen 8
      go_wp2
      refine bodyPost_ret (results_cell_row rfl _ _ R 38 _ (0, 0) _ rfl (blk_over9 HR4.out _ _ _ _ _ _ _ _ _) Try.underlying38 rfl (by kernel_rfl)) rfl (HFin.out ⟨⟨k, 0, noI⟩, .slice none 0 0, .slice none 0 0⟩ _ _ _ _ rfl (dv_num HKW.out (wf_i64 (by decide) (by decide))) (EOwn.nil _ _) (ROwn.nil _ _) (Blk.kept HB4.out (grown9 _ _ _ _ _ _ _ _ _ _ _) (fun e => HNE.out e.symm)) ?_ ?_)
      · exact grown_mix HG4.out (grown9 _ _ _ _ _ _ _ _ _ _ _) (fun j e => by cases e; rw [HAE.out]; exact Nat.le_refl _)
      · rw [if_pos HK1.out]
end Go.Proofs.Ytgkmgpjhpplkiaa
