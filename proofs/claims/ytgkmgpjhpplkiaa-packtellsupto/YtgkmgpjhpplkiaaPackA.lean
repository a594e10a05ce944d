/-
  The document's reader: number, many, text; number (eight bytes put).
-/
import Derived.BigQuiet
import Derived.BigRegion
import Derived.Test.YtgkmgpjhpplkiaaPackP
import Derived.Test.YtgkmgpjhpplkiaaRefCodec
import Derived.Test.YtgkmgpjhpplkiaaSays
import Derived.Test.YtgkmgpjhpplkiaaHoldL
namespace Go.Proofs.Ytgkmgpjhpplkiaa
open Go.RowKit
set_option linter.unusedVariables false
set_option maxRecDepth 100000

/-- The reader in block P. -/
def RdB (w : World) (P : Nat) (b : Value) (s : Rd) : Prop := Blk w P #[b, .int .i64 s.at_, .bool s.bad] 57
/-- Answers v, and the reader is s'. -/
def SaysN (v : Value) (P : Nat) (b : Value) (s' : Rd) (w : World) (e : Ending) (w' : World) : Prop := e = .returned v ∧ RdB w' P b s' ∧ w.grownBy w' (some P)

theorem number_any (w : World) (b : Value) (xs : List Int) (v : Int) (h : Row w b xs) (hn : xs.length ≤ 140737488355000) :
    Calls Try.prog 26 #[b, .int .i64 v] w (MadeB w (xs ++ n8 v)) := by
  have e : IntKind.u64.wrap v = v % 18446744073709551616 := by rw [IntKind.wrap_u64]
  go_enter Try.func26, Try.ntmps26
  go_wp2_with fail
  refine (refPut_any w b xs (v % 18446744073709551616) 8 h hn (Int.emod_nonneg _ (by omega)) (Int.emod_lt_of_pos _ (by omega))).mono ?_
  rintro e w1 ⟨u, rfl, ho, hb⟩
  go_wp2
  go_ret
  exact ⟨u, rfl, ho, hb⟩

set_option maxHeartbeats 2000000 in
theorem RNumber_any (w : World) (P : Nat) (b : Value) (xs : List Int) (s : Rd) (hB : RdB w P b s) (hr : Row w b xs) (h0 : 0 ≤ s.at_) (h1 : s.at_ ≤ 1000000000000) :
    Calls Try.prog 22 #[.pointer (some ⟨P, 0, none⟩)] w (SaysN (.int .i64 (rdNum xs s).1) P b (rdNum xs s).2 w) := by
  obtain ⟨at_, bad⟩ := s
  simp only at h0 h1
  have HG := hide (fun w' (hb : Row w' b xs) => refGet_any w' b xs at_ 8 hb (wf_i64 (by omega) (by omega)) (by decide))
  unfold SaysN rdNum wrapI
  dsimp only
  generalize (getS xs at_ 8).1 = v at *
  generalize (getS xs at_ 8).2 = er at *
  have HR := hide hr
  have HB := hide hB
  unfold RdB at HB
  dsimp only at HB
  have c0 : w.cell? ⟨P, 0, none⟩ = some b := HB.out.cell 0
  have c1 : w.cell? ⟨P, 1, none⟩ = some (.int .i64 at_) := HB.out.cell 1
  have c2 : w.cell? ⟨P, 2, none⟩ = some (.bool bad) := HB.out.cell 2
  have f1 := HB.out.frozen 1
  have f2 := HB.out.frozen 2
  clear hr hB
  go_enter Try.func22, Try.ntmps22
  go_wp2_with fail
  go_quiet (first | (go_at_call 35; refine Calls.quiet_of_same (HG.out _ (by exact HR.out.below (below_drewN (Below.refl _ _) _)))) | fail)
  have HBW : Hid (Blk (w.drewN nq) P _ _) := hide (kl_blk (below_drewN (Below.refl _ _) nq) HB.out)
  have HGW : Hid (w.grownBy (w.drewN nq) (some P)) := hide (below_grown (below_drewN (Below.refl _ _) nq) _)
  have c1 : (w.drewN nq).cell? ⟨P, 1, none⟩ = some (.int .i64 at_) := HBW.out.cell 1
  have c2 : (w.drewN nq).cell? ⟨P, 2, none⟩ = some (.bool bad) := HBW.out.cell 2
  have f1 := HBW.out.frozen 1
  have f2 := HBW.out.frozen 2
  generalize w.drewN nq = W at *
  clear HG HR HB c0
  have e8 : IntKind.i64.wrap (at_ + 8) = at_ + 8 := in64 _ (by omega)
  have HF := hide (fun (x : Bool) => (show Blk ((W.setCell ⟨P, 1, none⟩ (.int .i64 (at_ + 8))).setCell ⟨P, 2, none⟩ (.bool x)) P #[b, .int .i64 (at_ + 8), .bool x] 57 from (HBW.out.set 1 (.int .i64 (at_ + 8))).set 2 (.bool x)))
  have HH := hide (fun (x : Bool) => grown_trans (grown_trans HGW.out (grown_setCell W P 1 (.int .i64 (at_ + 8)))) (grown_setCell _ P 2 (.bool x)))
  cases bad with
  | true =>
    go_wp2_with fail
    go_region
    all_goals go_wp2
    all_goals go_ret
    all_goals exact ⟨rfl, kl_blk (kl_drew _) (HF.out true), grown_trans (HH.out true) (grown_drew _ _)⟩
  | false =>
    go_wp2_with fail
    go_region
    all_goals go_wp2
    all_goals go_ret
    all_goals exact ⟨rfl, kl_blk (kl_drew _) (HF.out (er != 0)), grown_trans (HH.out (er != 0)) (grown_drew _ _)⟩
set_option maxHeartbeats 2000000 in
theorem RMany_any (w : World) (P : Nat) (b : Value) (xs : List Int) (s : Rd) (hB : RdB w P b s) (hr : Row w b xs) (h0 : 0 ≤ s.at_) (h1 : s.at_ ≤ 1000000000000) :
    Calls Try.prog 37 #[.pointer (some ⟨P, 0, none⟩)] w (SaysN (.int .i64 (rdMany xs s).1) P b (rdMany xs s).2 w) := by
  obtain ⟨at_, bad⟩ := s
  simp only at h0 h1
  have HG := hide (fun w' (hb : Row w' b xs) => refGet_any w' b xs at_ 4 hb (wf_i64 (by omega) (by omega)) (by decide))
  have hv := getS4_range hr.bys at_
  unfold SaysN rdMany
  dsimp only
  generalize (getS xs at_ 4).1 = v at *
  generalize (getS xs at_ 4).2 = er at *
  have HR := hide hr
  have HB := hide hB
  unfold RdB at HB
  dsimp only at HB
  have c0 : w.cell? ⟨P, 0, none⟩ = some b := HB.out.cell 0
  have c1 : w.cell? ⟨P, 1, none⟩ = some (.int .i64 at_) := HB.out.cell 1
  have c2 : w.cell? ⟨P, 2, none⟩ = some (.bool bad) := HB.out.cell 2
  have f1 := HB.out.frozen 1
  have f2 := HB.out.frozen 2
  clear hr hB
  obtain ⟨hv0, hv1⟩ := hv
  have ev : wrap64 v = v := by unfold wrap64; omega
  go_enter Try.func37, Try.ntmps37
  go_wp2_with fail
  go_quiet (first | (go_at_call 35; refine Calls.quiet_of_same (HG.out _ (by exact HR.out.below (below_drewN (Below.refl _ _) _)))) | fail)
  have HBW : Hid (Blk (w.drewN nq) P _ _) := hide (kl_blk (below_drewN (Below.refl _ _) nq) HB.out)
  have HGW : Hid (w.grownBy (w.drewN nq) (some P)) := hide (below_grown (below_drewN (Below.refl _ _) nq) _)
  have c1 : (w.drewN nq).cell? ⟨P, 1, none⟩ = some (.int .i64 at_) := HBW.out.cell 1
  have c2 : (w.drewN nq).cell? ⟨P, 2, none⟩ = some (.bool bad) := HBW.out.cell 2
  have f1 := HBW.out.frozen 1
  have f2 := HBW.out.frozen 2
  generalize w.drewN nq = W at *
  clear HG HR HB c0
  have e8 : IntKind.i64.wrap (at_ + 4) = at_ + 4 := in64 _ (by omega)
  have HF := hide (fun (x : Bool) => (show Blk ((W.setCell ⟨P, 1, none⟩ (.int .i64 (at_ + 4))).setCell ⟨P, 2, none⟩ (.bool x)) P #[b, .int .i64 (at_ + 4), .bool x] 57 from (HBW.out.set 1 (.int .i64 (at_ + 4))).set 2 (.bool x)))
  have HH := hide (fun (x : Bool) => grown_trans (grown_trans HGW.out (grown_setCell W P 1 (.int .i64 (at_ + 4)))) (grown_setCell _ P 2 (.bool x)))
  cases bad with
  | true =>
    go_wp2_with fail
    go_region
    all_goals go_wp2
    all_goals go_ret
    all_goals exact ⟨rfl, kl_blk (kl_drew _) (HF.out true), grown_trans (HH.out true) (grown_drew _ _)⟩
  | false =>
    go_wp2_with fail
    go_region
    all_goals go_wp2
    all_goals go_ret
    all_goals exact ⟨rfl, kl_blk (kl_drew _) (HF.out (er != 0)), grown_trans (HH.out (er != 0)) (grown_drew _ _)⟩

set_option maxHeartbeats 2000000 in
theorem RText_any (w : World) (P : Nat) (b : Value) (xs : List Int) (s : Rd) (hB : RdB w P b s) (hr : Row w b xs) (h0 : 0 ≤ s.at_) (h1 : s.at_ ≤ 1000000000000) :
    Calls Try.prog 36 #[.pointer (some ⟨P, 0, none⟩)] w (SaysN (.string (strOfNums (rdText xs s).1)) P b (rdText xs s).2 w) := by
  obtain ⟨at_, bad⟩ := s
  simp only at h0 h1
  have HG := hide (fun w' (hb : Row w' b xs) => refGetText_any w' b xs at_ hb (wf_i64 (by omega) (by omega)))
  unfold SaysN rdText
  dsimp only
  generalize strOfNums (textS xs at_).1 = v at *
  generalize (textS xs at_).2.1 = na at *
  generalize (textS xs at_).2.2 = er at *
  have HR := hide hr
  have HB := hide hB
  unfold RdB at HB
  dsimp only at HB
  have c0 : w.cell? ⟨P, 0, none⟩ = some b := HB.out.cell 0
  have c1 : w.cell? ⟨P, 1, none⟩ = some (.int .i64 at_) := HB.out.cell 1
  have c2 : w.cell? ⟨P, 2, none⟩ = some (.bool bad) := HB.out.cell 2
  have f1 := HB.out.frozen 1
  have f2 := HB.out.frozen 2
  clear hr hB
  go_enter Try.func36, Try.ntmps36
  go_wp2_with fail
  go_quiet (first | (go_at_call 51; refine Calls.quiet_of_same (HG.out _ (by exact HR.out.below (below_drewN (Below.refl _ _) _)))) | fail)
  have HBW : Hid (Blk (w.drewN nq) P _ _) := hide (kl_blk (below_drewN (Below.refl _ _) nq) HB.out)
  have HGW : Hid (w.grownBy (w.drewN nq) (some P)) := hide (below_grown (below_drewN (Below.refl _ _) nq) _)
  have c1 : (w.drewN nq).cell? ⟨P, 1, none⟩ = some (.int .i64 at_) := HBW.out.cell 1
  have c2 : (w.drewN nq).cell? ⟨P, 2, none⟩ = some (.bool bad) := HBW.out.cell 2
  have f1 := HBW.out.frozen 1
  have f2 := HBW.out.frozen 2
  generalize w.drewN nq = W at *
  clear HG HR HB c0
  have HF := hide (fun (x : Bool) => (show Blk ((W.setCell ⟨P, 1, none⟩ (.int .i64 na)).setCell ⟨P, 2, none⟩ (.bool x)) P #[b, .int .i64 na, .bool x] 57 from (HBW.out.set 1 (.int .i64 na)).set 2 (.bool x)))
  have HH := hide (fun (x : Bool) => grown_trans (grown_trans HGW.out (grown_setCell W P 1 (.int .i64 na))) (grown_setCell _ P 2 (.bool x)))
  cases bad with
  | true =>
    go_wp2
    go_ret
    exact ⟨rfl, HF.out true, HH.out true⟩
  | false =>
    go_wp2
    go_ret
    exact ⟨rfl, HF.out (er != 0), HH.out (er != 0)⟩
end Go.Proofs.Ytgkmgpjhpplkiaa
