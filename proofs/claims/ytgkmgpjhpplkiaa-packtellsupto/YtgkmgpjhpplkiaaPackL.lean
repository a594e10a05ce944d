/-
  The program's reader: entries, runs.
-/
import Derived.Test.YtgkmgpjhpplkiaaPackK
import Derived.Test.YtgkmgpjhpplkiaaEntM
import Derived.Test.YtgkmgpjhpplkiaaRunsM
import Derived.Test.YtgkmgpjhpplkiaaMem2
namespace Go.Proofs.Ytgkmgpjhpplkiaa
open Go.RowKit
set_option linter.unusedVariables false
set_option maxRecDepth 100000

def rdEntP (xs : List Int) : Rd → En × Rd := mapR (fun p => ⟨p.1, p.2⟩) (seqR (gdR ByteArray.empty (rdStr xs)) (gdR 0 (rdNum xs)))
def rdRunP (xs : List Int) : Rd → Rn × Rd := mapR (fun p => ⟨p.1.1, p.1.2, p.2⟩) (seqR (seqR (gdR 0 (rdNum xs)) (gdR 0 (rdNum xs))) (gdR 0 (rdNum xs)))
def lenG {α : Type} (xs : List Int) (r : Nat → Rd → α × Rd) : Rd → α × Rd := fun s => r (gdR 0 (rdMany xs) s).1.toNat (gdR 0 (rdMany xs) s).2
theorem Rds.lenG {α : Type} {xs : List Int} {d : Nat → Dec α} {r : Nat → Rd → α × Rd} (hb : Bys xs) (h : ∀ n, Rds xs (d n) (r n)) : Rds xs (lenD d) (lenG xs r) where
  yes := fun a v ys ha hd => (Rds.len hb h).yes a v ys ha hd
  no := fun a ha hd => (Rds.len hb h).no a ha hd
  bad := fun s hs => (h _).bad _ (by unfold gdR; rw [if_pos hs]; exact hs)
theorem grown_mix {w w1 w2 : World} {P : Nat} {r : Option Nat} (h : w.grownBy w1 (some P)) (k : w1.grownBy w2 r) (hr : ∀ j, r = some j → w.heap.size ≤ j) : w.grownBy w2 (some P) :=
  ⟨k.os.trans h.os, k.tape.trans h.tape, k.output.trans h.output, Nat.le_trans h.size k.size, fun i hi hne => (k.block i (Nat.lt_of_lt_of_le hi h.size) (fun e => by have := hr i e.symm; omega)).trans (h.block i hi hne)⟩
theorem wrapI_wf (v : Int) : (Lit.int .i64 (wrapI v)).wf = true := by
  unfold wrapI wrap64
  exact wf_i64 (by omega) (by omega)
theorem gnum_wf (xs : List Int) (s : Rd) : (Lit.int .i64 (gdR 0 (rdNum xs) s).1).wf = true := by
  unfold gdR
  split
  · exact wf_i64 (by simp) (by simp)
  · exact wrapI_wf _
theorem textS_len (xs : List Int) (a : Int) : (textS xs a).1.length ≤ xs.length := by
  unfold textS
  split
  · simp
  · split
    · simp
    · simp only [List.length_take, List.length_drop]; omega
theorem gtext_size (xs : List Int) (s : Rd) : (gdR ByteArray.empty (rdStr xs) s).1.size ≤ xs.length := by
  unfold gdR
  split
  · simp
  · show (strOfNums (textS xs s.at_).1).size ≤ _
    rw [strOfNums_size]
    exact textS_len _ _
theorem gmany_range {xs : List Int} (hb : Bys xs) (s : Rd) : 0 ≤ (gdR 0 (rdMany xs) s).1 ∧ (gdR 0 (rdMany xs) s).1 < 4294967296 := by
  unfold gdR
  split
  · simp
  · exact getS4_range hb _
/-- The row's bytes are there while only block P, and what is new, is turned. -/
def RowP (w : World) (P : Nat) (b : Value) (xs : List Int) : Prop := ∀ w', w.grownBy w' (some P) → Row w' b xs
theorem RowP.to {w w' : World} {P : Nat} {b : Value} {xs : List Int} (h : RowP w P b xs) (hg : w.grownBy w' (some P)) : RowP w' P b xs := fun w2 h2 => h w2 (grown_trans hg h2)

/-- Answers such entries, or runs, and the reader is so. -/
def SaysE (P : Nat) (b : Value) (r : List En × Rd) (w : World) (e : Ending) (w' : World) : Prop := ∃ u, e = .returned u ∧ EOwn w.heap.size w' u r.1 ∧ RdQ w' P b r.2 ∧ w.grownBy w' (some P)
def SaysR (P : Nat) (b : Value) (r : List Rn × Rd) (w : World) (e : Ending) (w' : World) : Prop := ∃ u, e = .returned u ∧ ROwn w.heap.size w' u r.1 ∧ RdQ w' P b r.2 ∧ w.grownBy w' (some P)

set_option maxHeartbeats 4000000 in
theorem PEntries_any (w : World) (P : Nat) (b : Value) (xs : List Int) (s : Rd) (hB : RdQ w P b s) (hr : RowP w P b xs) (hS : InS xs 8 s) (hx : xs.length ≤ 1000000) :
    Calls Try.prog 49 #[.pointer (some ⟨P, 0, none⟩)] w (SaysE P b (lenG xs (manyR (rdEntP xs)) s) w) := by
  have hrow := hr w (World.grownBy.refl _ _)
  have HBY := hide hrow.bys
  have HX := hide hx
  have HC := hide (PBytes_any w P b xs s 4 hB hrow hS.1 (by have := hS.2.1; omega) (by omega) (by omega))
  have HS0 := hide (ins_gmany hS 0)
  have HRG := hide (gmany_range hrow.bys s)
  have HPL := hide hB.lt
  unfold lenG
  rw [gd_many] at HS0 HRG ⊢
  generalize (gdR 0 (rdBy xs 4) s).1 = n at *
  generalize (gdR 0 (rdBy xs 4) s).2 = s0 at *
  have HR := hide hr
  clear hB hrow hr hS hx
  obtain ⟨n, rfl⟩ := Int.eq_ofNat_of_zero_le HRG.out.1
  generalize hT : manyR (rdEntP xs) (n : Int).toNat s0 = T
  have HT := hide hT
  clear hT
  go_enter Try.func49, Try.ntmps49
  go_wp2_with fail
  refine HC.out.mono ?_
  rintro e w1 ⟨rfl, hB1, hg1⟩
  have HB1 := hide hB1
  have HG1 := hide hg1
  clear hB1 hg1 HC
  go_wp2
  go_loopw [3, 4] (fun u c wr => ∃ (m : Nat) (s : Rd) (acc : List En), c = .int .u64 m ∧ Hid (m + acc.length ≤ 4294967295) ∧ Hid (EOwn w.heap.size wr u acc) ∧ Hid (RdQ wr P b s) ∧ Hid (InS xs 8 s) ∧ Hid (w.grownBy wr (some P)) ∧ Hid ((acc ++ (manyR (rdEntP xs) m s).1, (manyR (rdEntP xs) m s).2) = T)) (fun _ c _ => (intOf c).toNat)
  case atStart => exact ⟨n, s0, [], rfl, hide (by have := HRG.out; simp; omega), hide (EOwn.nil _ _), HB1, HS0, HG1, hide (by rw [← HT.out]; simp)⟩
  case round =>
    obtain ⟨m, s, acc, rfl, HM, HO, HB, HS, HG, HE⟩ := hrel
    obtain ⟨at_, bad⟩ := s
    have c2 : wr.cell? ⟨P, 2, none⟩ = some (.int .i64 (erN bad)) := HB.out.cell 2
    by_cases hm : m = 0
    · subst hm
      go_wp2
      go_ret
      have h := HE.out
      unfold manyR at h
      rw [← h, List.append_nil]
      exact ⟨_, rfl, HO.out, HB.out, HG.out⟩
    · have hm' : (0 : Int) < m := by omega
      cases bad with
      | true =>
        have c2 : wr.cell? ⟨P, 2, none⟩ = some (.int .i64 3) := c2
        go_wp2
        go_ret
        have h := HE.out
        obtain ⟨m', rfl⟩ : ∃ m', m = m' + 1 := ⟨m - 1, by omega⟩
        unfold manyR at h
        rw [if_pos rfl, List.append_nil] at h
        rw [← h]
        exact ⟨_, rfl, HO.out, HB.out, HG.out⟩
      | false =>
        have c2 : wr.cell? ⟨P, 2, none⟩ = some (.int .i64 0) := c2
        obtain ⟨m', rfl⟩ : ∃ m', m = m' + 1 := ⟨m - 1, by omega⟩
        have hstep : manyR (rdEntP xs) (m' + 1) ⟨at_, false⟩ = ((rdEntP xs ⟨at_, false⟩).1 :: (manyR (rdEntP xs) m' (rdEntP xs ⟨at_, false⟩).2).1, (manyR (rdEntP xs) m' (rdEntP xs ⟨at_, false⟩).2).2) := by
          rw [manyR, if_neg (by simp)]
        rw [hstep] at HE
        have hat := HS.out
        have HC1 := hide (PText_any wr P b xs ⟨at_, false⟩ HB.out (HR.out wr HG.out) hat.1 (by have := hat.2.1; have := HX.out; omega))
        have HS1 := hide (ins_gtext HBY.out HS.out ByteArray.empty)
        have hsz := gtext_size xs ⟨at_, false⟩
        have hdef : rdEntP xs ⟨at_, false⟩ = (⟨(gdR ByteArray.empty (rdStr xs) ⟨at_, false⟩).1, (gdR 0 (rdNum xs) (gdR ByteArray.empty (rdStr xs) ⟨at_, false⟩).2).1⟩, (gdR 0 (rdNum xs) (gdR ByteArray.empty (rdStr xs) ⟨at_, false⟩).2).2) := rfl
        rw [hdef] at HE
        generalize (gdR ByteArray.empty (rdStr xs) ⟨at_, false⟩).1 = tv at *
        generalize (gdR ByteArray.empty (rdStr xs) ⟨at_, false⟩).2 = s1 at *
        have hwf := gnum_wf xs s1
        have HS2 := hide (ins_gnum HS1.out 0)
        have HC2 := hide (fun w' (hb : RdQ w' P b s1) (hg : w.grownBy w' (some P)) => PNumber_any w' P b xs s1 hb (HR.out w' hg) HS1.out.1 (by have := HS1.out.2.1; have := HX.out; omega))
        generalize (gdR 0 (rdNum xs) s1).1 = nv at *
        generalize (gdR 0 (rdNum xs) s1).2 = s2 at *
        have HWF := hide (show (⟨tv, nv⟩ : En).Wf from ⟨by unfold maxLen; have := HX.out; dsimp only; omega, hwf⟩)
        clear hstep hat hsz hdef hwf
        have hms : (m' + 1 : Nat) = ((m' : Int) + 1) := by omega
        have HWR := hide (show IntKind.u64.wrap (m' : Int) = m' from u64_in _ (by have := HM.out; omega))
        go_wp2_with fail
        refine HC1.out.mono ?_
        rintro e w2 ⟨rfl, hB2, hg2⟩
        have HO2 := hide (HO.out.grown hg2 (fun k e => by cases e; exact HPL.out))
        have HB2 := hide hB2
        have HG2 := hide (grown_trans HG.out hg2)
        clear hB2 hg2 HC1 HO HB HG c2
        go_wp2_with fail
        refine (HC2.out w2 HB2.out HG2.out).mono ?_
        rintro e w3 ⟨rfl, hB3, hg3⟩
        have HO3 := hide (HO2.out.grown hg3 (fun k e => by cases e; exact HPL.out))
        have HB3 := hide hB3
        have HG3 := hide (grown_trans HG2.out hg3)
        clear hB3 hg3 HC2 HO2 HB2 HG2
        have HF := hide (show acc.length + [(⟨tv, nv⟩ : En)].length ≤ 1000000000000 by have := HM.out; simp; omega)
        have HSZ := hide HG3.out.size
        go_wp2_with (at_builtin; refine wpList_append_ents rfl _ _ rfl w.heap.size _ _ _ [⟨tv, nv⟩] rfl (HO3.out.alloc _) rfl (ents_new _ [⟨tv, nv⟩] _ _ 1 rfl rfl (by simp) (by intro r hr; rw [List.mem_singleton] at hr; subst hr; exact HWF.out)) HF.out (by have := HSZ.out; simp; omega) ?_)
        intro u4 w4 ho4 hg4
        have HO4 := hide ho4
        have HBA : Hid (RdQ w4 P b s2) := hide (by
          refine (HB3.out.kept (World.grownBy_alloc w3 _ none) (by simp)).kept hg4 (fun e => ?_)
          have h1 := (HO3.out.block P e.symm).1
          have h2 := HPL.out
          omega)
        have HG4 := hide (grown_mix (grown_trans HG3.out (World.grownBy_alloc w3 _ (some P))) hg4 (fun j e => (HO3.out.block j e).1))
        clear ho4 hg4
        go_wp2
        exact ⟨⟨m', s2, acc ++ [⟨tv, nv⟩], by rw [HWR.out], hide (by have := HM.out; rw [List.length_append, List.length_singleton]; omega), HO4, HBA, HS2, HG4, hide (by have h := HE.out; rw [← h, List.append_assoc]; rfl)⟩, by simp only [intOf]; rw [HWR.out]; omega⟩
set_option maxHeartbeats 4000000 in
theorem PRuns_any (w : World) (P : Nat) (b : Value) (xs : List Int) (s : Rd) (hB : RdQ w P b s) (hr : RowP w P b xs) (hS : InS xs 8 s) (hx : xs.length ≤ 1000000) :
    Calls Try.prog 50 #[.pointer (some ⟨P, 0, none⟩)] w (SaysR P b (lenG xs (manyR (rdRunP xs)) s) w) := by
  have hrow := hr w (World.grownBy.refl _ _)
  have HBY := hide hrow.bys
  have HX := hide hx
  have HC := hide (PBytes_any w P b xs s 4 hB hrow hS.1 (by have := hS.2.1; omega) (by omega) (by omega))
  have HS0 := hide (ins_gmany hS 0)
  have HRG := hide (gmany_range hrow.bys s)
  have HPL := hide hB.lt
  unfold lenG
  rw [gd_many] at HS0 HRG ⊢
  generalize (gdR 0 (rdBy xs 4) s).1 = n at *
  generalize (gdR 0 (rdBy xs 4) s).2 = s0 at *
  have HR := hide hr
  clear hB hrow hr hS hx
  obtain ⟨n, rfl⟩ := Int.eq_ofNat_of_zero_le HRG.out.1
  generalize hT : manyR (rdRunP xs) (n : Int).toNat s0 = T
  have HT := hide hT
  clear hT
  go_enter Try.func50, Try.ntmps50
  go_wp2_with fail
  refine HC.out.mono ?_
  rintro e w1 ⟨rfl, hB1, hg1⟩
  have HB1 := hide hB1
  have HG1 := hide hg1
  clear hB1 hg1 HC
  go_wp2
  go_loopw [3, 4] (fun u c wr => ∃ (m : Nat) (s : Rd) (acc : List Rn), c = .int .u64 m ∧ Hid (m + acc.length ≤ 4294967295) ∧ Hid (ROwn w.heap.size wr u acc) ∧ Hid (RdQ wr P b s) ∧ Hid (InS xs 8 s) ∧ Hid (w.grownBy wr (some P)) ∧ Hid ((acc ++ (manyR (rdRunP xs) m s).1, (manyR (rdRunP xs) m s).2) = T)) (fun _ c _ => (intOf c).toNat)
  case atStart => exact ⟨n, s0, [], rfl, hide (by have := HRG.out; simp; omega), hide (ROwn.nil _ _), HB1, HS0, HG1, hide (by rw [← HT.out]; simp)⟩
  case round =>
    obtain ⟨m, s, acc, rfl, HM, HO, HB, HS, HG, HE⟩ := hrel
    obtain ⟨at_, bad⟩ := s
    have c2 : wr.cell? ⟨P, 2, none⟩ = some (.int .i64 (erN bad)) := HB.out.cell 2
    by_cases hm : m = 0
    · subst hm
      go_wp2
      go_ret
      have h := HE.out
      unfold manyR at h
      rw [← h, List.append_nil]
      exact ⟨_, rfl, HO.out, HB.out, HG.out⟩
    · have hm' : (0 : Int) < m := by omega
      cases bad with
      | true =>
        have c2 : wr.cell? ⟨P, 2, none⟩ = some (.int .i64 3) := c2
        go_wp2
        go_ret
        have h := HE.out
        obtain ⟨m', rfl⟩ : ∃ m', m = m' + 1 := ⟨m - 1, by omega⟩
        unfold manyR at h
        rw [if_pos rfl, List.append_nil] at h
        rw [← h]
        exact ⟨_, rfl, HO.out, HB.out, HG.out⟩
      | false =>
        have c2 : wr.cell? ⟨P, 2, none⟩ = some (.int .i64 0) := c2
        obtain ⟨m', rfl⟩ : ∃ m', m = m' + 1 := ⟨m - 1, by omega⟩
        have hstep : manyR (rdRunP xs) (m' + 1) ⟨at_, false⟩ = ((rdRunP xs ⟨at_, false⟩).1 :: (manyR (rdRunP xs) m' (rdRunP xs ⟨at_, false⟩).2).1, (manyR (rdRunP xs) m' (rdRunP xs ⟨at_, false⟩).2).2) := by
          rw [manyR, if_neg (by simp)]
        rw [hstep] at HE
        have hat := HS.out
        have HC1 := hide (PNumber_any wr P b xs ⟨at_, false⟩ HB.out (HR.out wr HG.out) hat.1 (by have := hat.2.1; have := HX.out; omega))
        have HS1 := hide (ins_gnum HS.out 0)
        have hdef : rdRunP xs ⟨at_, false⟩ = (⟨(gdR 0 (rdNum xs) ⟨at_, false⟩).1, (gdR 0 (rdNum xs) (gdR 0 (rdNum xs) ⟨at_, false⟩).2).1, (gdR 0 (rdNum xs) (gdR 0 (rdNum xs) (gdR 0 (rdNum xs) ⟨at_, false⟩).2).2).1⟩, (gdR 0 (rdNum xs) (gdR 0 (rdNum xs) (gdR 0 (rdNum xs) ⟨at_, false⟩).2).2).2) := rfl
        rw [hdef] at HE
        have hwf0 := gnum_wf xs ⟨at_, false⟩
        generalize (gdR 0 (rdNum xs) ⟨at_, false⟩).1 = v0 at *
        generalize (gdR 0 (rdNum xs) ⟨at_, false⟩).2 = s1 at *
        have hwf1 := gnum_wf xs s1
        have HS2 := hide (ins_gnum HS1.out 0)
        have HC2 := hide (fun w' (hb : RdQ w' P b s1) (hg : w.grownBy w' (some P)) => PNumber_any w' P b xs s1 hb (HR.out w' hg) HS1.out.1 (by have := HS1.out.2.1; have := HX.out; omega))
        generalize (gdR 0 (rdNum xs) s1).1 = v1 at *
        generalize (gdR 0 (rdNum xs) s1).2 = s2 at *
        have hwf2 := gnum_wf xs s2
        have HS3 := hide (ins_gnum HS2.out 0)
        have HC3 := hide (fun w' (hb : RdQ w' P b s2) (hg : w.grownBy w' (some P)) => PNumber_any w' P b xs s2 hb (HR.out w' hg) HS2.out.1 (by have := HS2.out.2.1; have := HX.out; omega))
        generalize (gdR 0 (rdNum xs) s2).1 = v2 at *
        generalize (gdR 0 (rdNum xs) s2).2 = s3 at *
        have HWF := hide (show (⟨v0, v1, v2⟩ : Rn).Wf from ⟨hwf0, hwf1, hwf2⟩)
        clear hstep hat hdef hwf0 hwf1 hwf2
        have hms : (m' + 1 : Nat) = ((m' : Int) + 1) := by omega
        have HWR := hide (show IntKind.u64.wrap (m' : Int) = m' from u64_in _ (by have := HM.out; omega))
        go_wp2_with fail
        refine HC1.out.mono ?_
        rintro e w2 ⟨rfl, hB2, hg2⟩
        have HO2 := hide (HO.out.grown hg2 (fun k e => by cases e; exact HPL.out))
        have HB2 := hide hB2
        have HG2 := hide (grown_trans HG.out hg2)
        clear hB2 hg2 HC1 HO HB HG c2
        go_wp2_with fail
        refine (HC2.out w2 HB2.out HG2.out).mono ?_
        rintro e w3 ⟨rfl, hB3, hg3⟩
        have HO3 := hide (HO2.out.grown hg3 (fun k e => by cases e; exact HPL.out))
        have HB3 := hide hB3
        have HG3 := hide (grown_trans HG2.out hg3)
        clear hB3 hg3 HC2 HO2 HB2 HG2
        go_wp2_with fail
        refine (HC3.out w3 HB3.out HG3.out).mono ?_
        rintro e w5 ⟨rfl, hB5, hg5⟩
        have HO5 := hide (HO3.out.grown hg5 (fun k e => by cases e; exact HPL.out))
        have HB5 := hide hB5
        have HG5 := hide (grown_trans HG3.out hg5)
        clear hB5 hg5 HC3 HO3 HB3 HG3
        have HF := hide (show acc.length + [(⟨v0, v1, v2⟩ : Rn)].length ≤ 1000000000000 by have := HM.out; simp; omega)
        have HSZ := hide HG5.out.size
        go_wp2_with (at_builtin; refine wpList_append_runs rfl _ _ rfl w.heap.size _ _ _ [⟨v0, v1, v2⟩] rfl (HO5.out.alloc _) rfl (runs_new _ [⟨v0, v1, v2⟩] _ _ 1 rfl rfl (by simp) (by intro r hr; rw [List.mem_singleton] at hr; subst hr; exact HWF.out)) HF.out (by have := HSZ.out; simp; omega) ?_)
        intro u4 w4 ho4 hg4
        have HO4 := hide ho4
        have HBA : Hid (RdQ w4 P b s3) := hide (by
          refine (HB5.out.kept (World.grownBy_alloc w5 _ none) (by simp)).kept hg4 (fun e => ?_)
          have h1 := (HO5.out.block P e.symm).1
          have h2 := HPL.out
          omega)
        have HG4 := hide (grown_mix (grown_trans HG5.out (World.grownBy_alloc w5 _ (some P))) hg4 (fun j e => (HO5.out.block j e).1))
        clear ho4 hg4
        go_wp2
        exact ⟨⟨m', s3, acc ++ [⟨v0, v1, v2⟩], by rw [HWR.out], hide (by have := HM.out; rw [List.length_append, List.length_singleton]; omega), HO4, HBA, HS3, HG4, hide (by have h := HE.out; rw [← h, List.append_assoc]; rfl)⟩, by simp only [intOf]; rw [HWR.out]; omega⟩
end Go.Proofs.Ytgkmgpjhpplkiaa
