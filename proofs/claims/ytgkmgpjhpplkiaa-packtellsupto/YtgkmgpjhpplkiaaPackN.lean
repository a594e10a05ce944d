/-
  The program's reader: an inode.
-/
import Derived.Test.YtgkmgpjhpplkiaaPackL
import Derived.Test.YtgkmgpjhpplkiaaPackM
import Derived.Test.YtgkmgpjhpplkiaaInoC
import Derived.Laws.Rows
namespace Go.Proofs.Ytgkmgpjhpplkiaa
open Go.RowKit
set_option linter.unusedVariables false
set_option maxRecDepth 100000

def rdInoP (xs : List Int) : Rd → Ino × Rd :=
  mapR (fun p => ⟨p.1.1.1.1.1.1, p.1.1.1.1.1.2, p.1.1.1.1.2, p.1.1.1.2, p.1.1.2, p.1.2, p.2⟩)
    (seqR (seqR (seqR (seqR (seqR (seqR (gdR 0 (rdNum xs)) (gdR 0 (rdNum xs))) (gdR 0 (rdNum xs))) (gdR 0 (rdNum xs))) (gdR ByteArray.empty (rdStr xs))) (lenG xs (manyR (rdEntP xs)))) (lenG xs (manyR (rdRunP xs))))
theorem ino_rdsP {xs : List Int} (hb : Bys xs) : Rds xs inoD (rdInoP xs) :=
  Rds.map (((((((Rds.gd (num_rds xs) 0).seq (Rds.gd (num_rds xs) 0)).seq (Rds.gd (num_rds xs) 0)).seq (Rds.gd (num_rds xs) 0)).seq (Rds.gd (str_rds hb) _)).seq (Rds.lenG hb fun n => Rds.many (((Rds.gd (str_rds hb) _).seq (Rds.gd (num_rds xs) 0)).map _) n)).seq (Rds.lenG hb fun n => Rds.many ((((Rds.gd (num_rds xs) 0).seq (Rds.gd (num_rds xs) 0)).seq (Rds.gd (num_rds xs) 0)).map _) n)) _
theorem ins_manyR {α : Type} {xs : List Int} {r : Rd → α × Rd} (h : ∀ s, InS xs 8 s → InS xs 8 (r s).2) (n : Nat) (s : Rd) (hs : InS xs 8 s) : InS xs 8 (manyR r n s).2 := by
  induction n generalizing s with
  | zero => exact hs
  | succ n ih =>
    unfold manyR
    split
    · exact hs
    · exact ih _ (h s hs)
theorem ins_ents {xs : List Int} (hb : Bys xs) {s : Rd} (h : InS xs 8 s) : InS xs 8 (lenG xs (manyR (rdEntP xs)) s).2 :=
  ins_manyR (r := rdEntP xs) (fun s hs => ins_gnum (ins_gtext hb hs ByteArray.empty) 0) _ _ (ins_gmany h 0)

/-- What lies in a row that a call made is in no block of deeds. -/
theorem EOwn.apart {base : Nat} {w : World} {v : Value} {l : List En} (h : EOwn base w v l) (B : Nat) : Apart B w v := by
  intro a n c e
  rcases h.1.2 with ⟨hn, _⟩ | ⟨g, cap, cur, hv, hbg, hg, _⟩
  · rw [hn] at e; cases e
  · rw [hv] at e
    simp only [Value.slice.injEq, Option.some.injEq] at e
    obtain ⟨rfl, _, _⟩ := e
    exact .inr ⟨_, _, _, hg, by decide⟩
theorem ROwn.apart {base : Nat} {w : World} {v : Value} {l : List Rn} (h : ROwn base w v l) (B : Nat) : Apart B w v := by
  intro a n c e
  rcases h.1.2 with ⟨hn, _⟩ | ⟨g, cap, cur, hv, hbg, hg, _⟩
  · rw [hn] at e; cases e
  · rw [hv] at e
    simp only [Value.slice.injEq, Option.some.injEq] at e
    obtain ⟨rfl, _, _⟩ := e
    exact .inr ⟨_, _, _, hg, by decide⟩
def inoCells (x : Ino) (ev rv : Value) : Array Value := #[.int .i64 x.no, .int .i64 x.kind, .int .i64 x.links, .int .i64 x.size, .string x.t, ev, rv]
structure InoWf (x : Ino) : Prop where
  no : (Lit.int .i64 x.no).wf = true
  kind : (Lit.int .i64 x.kind).wf = true
  links : (Lit.int .i64 x.links).wf = true
  size : (Lit.int .i64 x.size).wf = true
  t : x.t.size ≤ maxLen
/-- Answers such an inode, and the reader is so. -/
def SaysX (P : Nat) (b : Value) (r : Ino × Rd) (w : World) (e : Ending) (w' : World) : Prop :=
  ∃ ev rv, e = .returned (.agg (inoCells r.1 ev rv)) ∧ InoWf r.1 ∧ EOwn w.heap.size w' ev r.1.es ∧ ROwn w.heap.size w' rv r.1.rs ∧ RdQ w' P b r.2 ∧ w.grownBy w' (some P)
theorem grown7 (V : World) (B : Nat) (v0 v1 v2 v3 v4 v5 v6 : Value) : V.grownBy (((((((V.setCell ⟨B, 0, none⟩ v0).setCell ⟨B, 1, none⟩ v1).setCell ⟨B, 2, none⟩ v2).setCell ⟨B, 3, none⟩ v3).setCell ⟨B, 4, none⟩ v4).setCell ⟨B, 5, none⟩ v5).setCell ⟨B, 6, none⟩ v6) (some B) :=
  grown_trans (grown_trans (grown_trans (grown_trans (grown_trans (grown_trans (grown_setCell _ _ _ _) (grown_setCell _ _ _ _)) (grown_setCell _ _ _ _)) (grown_setCell _ _ _ _)) (grown_setCell _ _ _ _)) (grown_setCell _ _ _ _)) (grown_setCell _ _ _ _)

set_option maxHeartbeats 4000000 in
theorem PInode_any (w : World) (P : Nat) (b : Value) (xs : List Int) (s : Rd) (hB : RdQ w P b s) (hr : RowP w P b xs) (hS : InS xs 8 s) (hx : xs.length ≤ 1000000) :
    Calls Try.prog 34 #[.pointer (some ⟨P, 0, none⟩)] w (SaysX P b (rdInoP xs s) w) := by
  have hby := (hr w (World.grownBy.refl _ _)).bys
  have hX := fun s (h : InS xs 8 s) => (show s.at_ ≤ 1000000000000 by have := h.2.1; omega)
  have HN1 := hide (fun w' (hb : RdQ w' P b s) (hg : w.grownBy w' (some P)) => PNumber_any w' P b xs s hb (hr w' hg) hS.1 (hX _ hS))
  have hS1 := ins_gnum hS 0
  have hw0 := gnum_wf xs s
  unfold rdInoP mapR seqR
  dsimp only
  generalize (gdR 0 (rdNum xs) s).1 = v0 at *
  generalize (gdR 0 (rdNum xs) s).2 = s1 at *
  have HN2 := hide (fun w' (hb : RdQ w' P b s1) (hg : w.grownBy w' (some P)) => PNumber_any w' P b xs s1 hb (hr w' hg) hS1.1 (hX _ hS1))
  have hS2 := ins_gnum hS1 0
  have hw1 := gnum_wf xs s1
  generalize (gdR 0 (rdNum xs) s1).1 = v1 at *
  generalize (gdR 0 (rdNum xs) s1).2 = s2 at *
  have HN3 := hide (fun w' (hb : RdQ w' P b s2) (hg : w.grownBy w' (some P)) => PNumber_any w' P b xs s2 hb (hr w' hg) hS2.1 (hX _ hS2))
  have hS3 := ins_gnum hS2 0
  have hw2 := gnum_wf xs s2
  generalize (gdR 0 (rdNum xs) s2).1 = v2 at *
  generalize (gdR 0 (rdNum xs) s2).2 = s3 at *
  have HN4 := hide (fun w' (hb : RdQ w' P b s3) (hg : w.grownBy w' (some P)) => PNumber_any w' P b xs s3 hb (hr w' hg) hS3.1 (hX _ hS3))
  have hS4 := ins_gnum hS3 0
  have hw3 := gnum_wf xs s3
  generalize (gdR 0 (rdNum xs) s3).1 = v3 at *
  generalize (gdR 0 (rdNum xs) s3).2 = s4 at *
  have HN5 := hide (fun w' (hb : RdQ w' P b s4) (hg : w.grownBy w' (some P)) => PText_any w' P b xs s4 hb (hr w' hg) hS4.1 (hX _ hS4))
  have hS5 := ins_gtext hby hS4 ByteArray.empty
  have hw4 := gtext_size xs s4
  generalize (gdR ByteArray.empty (rdStr xs) s4).1 = v4 at *
  generalize (gdR ByteArray.empty (rdStr xs) s4).2 = s5 at *
  have HN6 := hide (fun w' (hb : RdQ w' P b s5) (hg : w.grownBy w' (some P)) => PEntries_any w' P b xs s5 hb (hr.to hg) hS5 hx)
  have hS6 := ins_ents hby hS5
  generalize (lenG xs (manyR (rdEntP xs)) s5) = r6 at *
  obtain ⟨es, s6⟩ := r6
  have HN7 := hide (fun w' (hb : RdQ w' P b s6) (hg : w.grownBy w' (some P)) => PRuns_any w' P b xs s6 hb (hr.to hg) hS6 hx)
  (try dsimp only at HN7)
  (try dsimp only)
  generalize (lenG xs (manyR (rdRunP xs)) s6) = r7 at *
  obtain ⟨rs, s7⟩ := r7
  have HWF := hide (show InoWf ⟨v0, v1, v2, v3, v4, es, rs⟩ from ⟨hw0, hw1, hw2, hw3, by unfold maxLen; dsimp only; omega⟩)
  have HB := hide hB
  have HPL := hide hB.lt
  clear hB hr hS hx hby hX hS1 hS2 hS3 hS4 hS5 hS6 hw0 hw1 hw2 hw3 hw4
  unfold SaysX
  dsimp only
  have hba := kl_alloc w (.cells #[.int .i64 0, .int .i64 0, .int .i64 0, .int .i64 0, .string ⟨#[]⟩, .slice none 0 0, .slice none 0 0] 36)
  have hbl := Blk.new w #[.int .i64 0, .int .i64 0, .int .i64 0, .int .i64 0, .string ⟨#[]⟩, .slice none 0 0, .slice none 0 0] 36
  have HB0 := hide (show RdQ _ P b s from kl_blk hba HB.out)
  have HG0 := hide (below_grown hba (some P))
  have HR0 := hide hbl
  have HZ0 := hide (show w.heap.size + 1 ≤ (w.alloc (.cells #[.int .i64 0, .int .i64 0, .int .i64 0, .int .i64 0, .string ⟨#[]⟩, .slice none 0 0, .slice none 0 0] 36)).heap.size by simp)
  clear hba hbl
  go_enter Try.func34, Try.ntmps34
  go_upto_region 1 with fail
  generalize w.alloc (.cells #[.int .i64 0, .int .i64 0, .int .i64 0, .int .i64 0, .string ⟨#[]⟩, .slice none 0 0, .slice none 0 0] 36) = W0 at *
  generalize hA : w.heap.size = R at *
  have HAE := hide hA
  have HNE := hide (show some R ≠ some P by intro e; have e' := Option.some.inj e; have := HPL.out; omega)
  clear hA
  go_wp2_with fail
  refine (HN1.out W0 HB0.out HG0.out).mono ?_
  rintro e w1 ⟨rfl, hq, hg⟩
  have HB1 := hide hq
  have HR1 := hide (HR0.out.kept hg HNE.out)
  have HG1 := hide (grown_trans HG0.out hg)
  have HZ1 := hide (Nat.le_trans HZ0.out hg.size)
  clear hq hg HB0 HR0 HG0 HZ0
  go_wp2_with fail
  refine (HN2.out w1 HB1.out HG1.out).mono ?_
  rintro e w2 ⟨rfl, hq, hg⟩
  have HB2 := hide hq
  have HR2 := hide (HR1.out.kept hg HNE.out)
  have HG2 := hide (grown_trans HG1.out hg)
  have HZ2 := hide (Nat.le_trans HZ1.out hg.size)
  clear hq hg HB1 HR1 HG1 HZ1
  go_wp2_with fail
  refine (HN3.out w2 HB2.out HG2.out).mono ?_
  rintro e w3 ⟨rfl, hq, hg⟩
  have HB3 := hide hq
  have HR3 := hide (HR2.out.kept hg HNE.out)
  have HG3 := hide (grown_trans HG2.out hg)
  have HZ3 := hide (Nat.le_trans HZ2.out hg.size)
  clear hq hg HB2 HR2 HG2 HZ2
  go_wp2_with fail
  refine (HN4.out w3 HB3.out HG3.out).mono ?_
  rintro e w4 ⟨rfl, hq, hg⟩
  have HB4 := hide hq
  have HR4 := hide (HR3.out.kept hg HNE.out)
  have HG4 := hide (grown_trans HG3.out hg)
  have HZ4 := hide (Nat.le_trans HZ3.out hg.size)
  clear hq hg HB3 HR3 HG3 HZ3
  go_wp2_with fail
  refine (HN5.out w4 HB4.out HG4.out).mono ?_
  rintro e w5 ⟨rfl, hq, hg⟩
  have HB5 := hide hq
  have HR5 := hide (HR4.out.kept hg HNE.out)
  have HG5 := hide (grown_trans HG4.out hg)
  have HZ5 := hide (Nat.le_trans HZ4.out hg.size)
  clear hq hg HB4 HR4 HG4 HZ4
  go_wp2_with fail
  refine (HN6.out w5 HB5.out HG5.out).mono ?_
  rintro e w6 ⟨ev, rfl, ho, hq, hg⟩
  have HB6 := hide hq
  have HR6 := hide (HR5.out.kept hg HNE.out)
  have HG6 := hide (grown_trans HG5.out hg)
  have HZ6 := hide (Nat.le_trans HZ5.out hg.size)
  have HO6 := hide (ho.mono HZ5.out)
  clear hq hg ho HB5 HR5 HG5 HZ5
  obtain ⟨ea, ec, hev⟩ := HO6.out.row.of_len
  generalize es.length = le at hev
  subst hev
  go_wp2_with fail
  refine (HN7.out w6 HB6.out HG6.out).mono ?_
  rintro e w7 ⟨rv, rfl, ho, hq, hg⟩
  have HB7 := hide hq
  have HR7 := hide (HR6.out.kept hg HNE.out)
  have HG7 := hide (grown_trans HG6.out hg)
  have HO7 := hide (HO6.out.grown hg (fun k e => by cases e; have := HPL.out; omega))
  have HQ7 := hide (ho.mono HZ6.out)
  clear hq hg ho HB6 HR6 HG6 HZ6 HO6
  obtain ⟨ra, rc, hrv⟩ := HQ7.out.row.of_len
  generalize rs.length = lr at hrv
  subst hrv
  have c0 : w7.cell? ⟨R, 0, none⟩ = some (.int .i64 0) := HR7.out.cell 0
  have f0 := HR7.out.frozen 0
  have c1 : w7.cell? ⟨R, 1, none⟩ = some (.int .i64 0) := HR7.out.cell 1
  have f1 := HR7.out.frozen 1
  have c2 : w7.cell? ⟨R, 2, none⟩ = some (.int .i64 0) := HR7.out.cell 2
  have f2 := HR7.out.frozen 2
  have c3 : w7.cell? ⟨R, 3, none⟩ = some (.int .i64 0) := HR7.out.cell 3
  have f3 := HR7.out.frozen 3
  have c4 : w7.cell? ⟨R, 4, none⟩ = some (.string ⟨#[]⟩) := HR7.out.cell 4
  have f4 := HR7.out.frozen 4
  have c5 : w7.cell? ⟨R, 5, none⟩ = some (.slice none 0 0) := HR7.out.cell 5
  have f5 := HR7.out.frozen 5
  have c6 : w7.cell? ⟨R, 6, none⟩ = some (.slice none 0 0) := HR7.out.cell 6
  have f6 := HR7.out.frozen 6
  go_wp2
  refine bodyPost_ret (results_cell_row rfl _ _ R 36 _ (0, 0) _ rfl (blk_over HR7.out _ _ _ _ _ _ _) Try.underlying36 rfl (by kernel_rfl)) rfl ⟨.slice ea le ec, .slice ra lr rc, rfl, HWF.out, ?_, ?_, ?_, ?_⟩
  · rw [HAE.out]
    exact (HO7.out.grown (grown7 _ _ _ _ _ _ _ _ _) (fun k e => by cases e; omega)).mono (Nat.le_succ _)
  · rw [HAE.out]
    exact (HQ7.out.grown (grown7 _ _ _ _ _ _ _ _ _) (fun k e => by cases e; omega)).mono (Nat.le_succ _)
  · exact HB7.out.kept (grown7 _ _ _ _ _ _ _ _ _) (fun e => HNE.out e.symm)
  · exact grown_mix HG7.out (grown7 _ _ _ _ _ _ _ _ _) (fun j e => by cases e; rw [HAE.out]; exact Nat.le_refl _)
end Go.Proofs.Ytgkmgpjhpplkiaa
