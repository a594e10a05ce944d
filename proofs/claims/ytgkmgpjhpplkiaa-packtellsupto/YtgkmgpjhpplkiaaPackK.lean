/-
  The program's reader: bytes, number, text. Nothing is read any more behind an error.
-/
import Derived.BigQuiet
import Derived.BigRegion
import Derived.Test.YtgkmgpjhpplkiaaPackH
import Derived.Test.YtgkmgpjhpplkiaaSays
import Derived.Test.YtgkmgpjhpplkiaaHoldL
namespace Go.Proofs.Ytgkmgpjhpplkiaa
open Go.RowKit
set_option linter.unusedVariables false
set_option maxRecDepth 100000

/-- Only where nothing was wrong before. -/
def gdR {α : Type} (z : α) (r : Rd → α × Rd) : Rd → α × Rd := fun s => if s.bad then (z, s) else r s
theorem Rds.gd {α : Type} {xs : List Int} {d : Dec α} {r : Rd → α × Rd} (h : Rds xs d r) (z : α) : Rds xs d (gdR z r) where
  yes := fun a v ys ha hd => h.yes a v ys ha hd
  no := fun a ha hd => h.no a ha hd
  bad := fun s hs => by unfold gdR; rw [if_pos hs]; exact hs
/-- Where one may be. -/
def InS (xs : List Int) (k : Nat) (s : Rd) : Prop := 0 ≤ s.at_ ∧ s.at_ ≤ xs.length + k ∧ (s.bad = false → s.at_ ≤ xs.length)
theorem InS.le {xs : List Int} {k m : Nat} {s : Rd} (h : InS xs k s) (hm : k ≤ m) : InS xs m s := ⟨h.1, by have := h.2.1; omega, h.2.2⟩
theorem ins_num {xs : List Int} {k : Nat} {s : Rd} (h : InS xs k s) : InS xs (k + 8) (rdNum xs s).2 := by
  obtain ⟨h0, h1, h2⟩ := h
  unfold rdNum
  refine ⟨by dsimp only; omega, by dsimp only; omega, fun hb => ?_⟩
  simp only [Bool.or_eq_false_iff, bne_eq_false_iff_eq] at hb
  have := (getS_ok hb.2).2.2.2
  exact this
theorem ins_many {xs : List Int} {k : Nat} {s : Rd} (h : InS xs k s) : InS xs (k + 8) (rdMany xs s).2 := by
  obtain ⟨h0, h1, h2⟩ := h
  unfold rdMany
  refine ⟨by dsimp only; omega, by dsimp only; omega, fun hb => ?_⟩
  simp only [Bool.or_eq_false_iff, bne_eq_false_iff_eq] at hb
  exact (getS_ok hb.2).2.2.2
theorem text_in (xs : List Int) (hb : Bys xs) (a : Int) (h0 : 0 ≤ a) : 0 ≤ (textS xs a).2.1 ∧ (textS xs a).2.1 ≤ xs.length := by
  have hr := getS4_range hb a
  unfold textS
  split
  · simp
  · rename_i h
    have hk := getS_ok (Classical.byContradiction h)
    split
    · simp
    · dsimp only; omega
theorem ins_text {xs : List Int} (hb : Bys xs) {k : Nat} {s : Rd} (h : InS xs k s) : InS xs 0 (rdText xs s).2 := by
  have := text_in xs hb s.at_ h.1
  unfold rdText
  exact ⟨by dsimp only; omega, by dsimp only; omega, fun _ => by dsimp only; omega⟩
theorem ins_gnum {xs : List Int} {s : Rd} (h : InS xs 8 s) (z : Int) : InS xs 8 (gdR z (rdNum xs) s).2 := by
  unfold gdR
  split
  · exact h
  · rename_i hb
    exact ins_num (k := 0) ⟨h.1, by have := h.2.2 (by simpa using hb); omega, h.2.2⟩
theorem ins_gmany {xs : List Int} {s : Rd} (h : InS xs 8 s) (z : Int) : InS xs 8 (gdR z (rdMany xs) s).2 := by
  unfold gdR
  split
  · exact h
  · rename_i hb
    exact ins_many (k := 0) ⟨h.1, by have := h.2.2 (by simpa using hb); omega, h.2.2⟩
theorem ins_gtext {xs : List Int} (hx : Bys xs) {s : Rd} (h : InS xs 8 s) (z : ByteArray) : InS xs 8 (gdR z (rdStr xs) s).2 := by
  unfold gdR
  split
  · exact h
  · exact (ins_text hx h).le (by omega)

/-- The number of n bytes. -/
def rdBy (xs : List Int) (n : Int) : Rd → Int × Rd := fun s => ((getS xs s.at_ n).1, ⟨s.at_ + n, s.bad || (getS xs s.at_ n).2 != 0⟩)
theorem getS_e (xs : List Int) {a n : Int} (h0 : 0 ≤ a) (h1 : 1 ≤ n) (h8 : n ≤ 8) : (getS xs a n).2 = 0 ∨ (getS xs a n).2 = 3 := by
  unfold getS
  rw [if_neg (by omega)]
  split
  · exact .inr rfl
  · exact .inl rfl
theorem textS_e (xs : List Int) {a : Int} (h0 : 0 ≤ a) : (textS xs a).2.2 = 0 ∨ (textS xs a).2.2 = 3 := by
  have := getS_e xs (a := a) (n := 4) h0 (by omega) (by omega)
  unfold textS
  split
  · exact this
  · split
    · exact .inr rfl
    · exact .inl rfl
def erN (b : Bool) : Int := if b then 3 else 0
theorem erN_ne {e : Int} (h : e = 0 ∨ e = 3) : erN (e != 0) = e := by
  rcases h with rfl | rfl <;> rfl

/-- The reader in block P. -/
def RdQ (w : World) (P : Nat) (b : Value) (s : Rd) : Prop := Blk w P #[b, .int .i64 s.at_, .int .i64 (erN s.bad)] 53
/-- Answers v, and the reader is s'. -/
def SaysQ (v : Value) (P : Nat) (b : Value) (s' : Rd) (w : World) (e : Ending) (w' : World) : Prop := e = .returned v ∧ RdQ w' P b s' ∧ w.grownBy w' (some P)

set_option maxHeartbeats 2000000 in
theorem PBytes_any (w : World) (P : Nat) (b : Value) (xs : List Int) (s : Rd) (n : Int) (hB : RdQ w P b s) (hr : Row w b xs) (h0 : 0 ≤ s.at_) (h1 : s.at_ ≤ 1000000000000) (hn : 1 ≤ n) (hn8 : n ≤ 8) :
    Calls Try.prog 32 #[.pointer (some ⟨P, 0, none⟩), .int .i64 n] w (SaysQ (.int .u64 (gdR 0 (rdBy xs n) s).1) P b (gdR 0 (rdBy xs n) s).2 w) := by
  obtain ⟨at_, bad⟩ := s
  simp only at h0 h1
  have HG := hide (fun w' (hb : Row w' b xs) => Get_any w' b xs at_ n hb (wf_i64 (by omega) (by omega)) (wf_i64 (by omega) (by omega)))
  have her := getS_e xs h0 hn hn8
  unfold SaysQ gdR rdBy
  dsimp only
  generalize (getS xs at_ n).1 = v at *
  generalize (getS xs at_ n).2 = er at *
  have HER := hide (erN_ne her)
  have HR := hide hr
  have HB := hide hB
  unfold RdQ at HB
  dsimp only at HB
  have c0 : w.cell? ⟨P, 0, none⟩ = some b := HB.out.cell 0
  have c1 : w.cell? ⟨P, 1, none⟩ = some (.int .i64 at_) := HB.out.cell 1
  have c2 : w.cell? ⟨P, 2, none⟩ = some (.int .i64 (erN bad)) := HB.out.cell 2
  have e8 : IntKind.i64.wrap (at_ + n) = at_ + n := in64 _ (by omega)
  clear hr hB her
  cases bad with
  | true =>
    have c2 : w.cell? ⟨P, 2, none⟩ = some (.int .i64 3) := c2
    go_enter Try.func32, Try.ntmps32
    go_wp2
    go_ret
    exact ⟨rfl, HB.out, World.grownBy.refl _ _⟩
  | false =>
    have c2 : w.cell? ⟨P, 2, none⟩ = some (.int .i64 0) := c2
    go_enter Try.func32, Try.ntmps32
    go_wp2_with fail
    go_quiet (first | (go_at_call 47; refine Calls.quiet_of_same (HG.out _ (by exact HR.out.below (below_drewN (Below.refl _ _) _)))) | fail)
    have HBW : Hid (Blk (w.drewN nq) P _ _) := hide (kl_blk (below_drewN (Below.refl _ _) nq) HB.out)
    have HGW : Hid (w.grownBy (w.drewN nq) (some P)) := hide (below_grown (below_drewN (Below.refl _ _) nq) _)
    clear c0 c1 c2
    have c1 : (w.drewN nq).cell? ⟨P, 1, none⟩ = some (.int .i64 at_) := HBW.out.cell 1
    have c2 : (w.drewN nq).cell? ⟨P, 2, none⟩ = some (.int .i64 0) := HBW.out.cell 2
    have f1 := HBW.out.frozen 1
    have f2 := HBW.out.frozen 2
    generalize w.drewN nq = W at *
    clear HG HR HB
    have HF := hide (show Blk ((W.setCell ⟨P, 1, none⟩ (.int .i64 (at_ + n))).setCell ⟨P, 2, none⟩ (.int .i64 er)) P #[b, .int .i64 (at_ + n), .int .i64 er] 53 from (HBW.out.set 1 (.int .i64 (at_ + n))).set 2 (.int .i64 er))
    have HH := hide (grown_trans (grown_trans HGW.out (grown_setCell W P 1 (.int .i64 (at_ + n)))) (grown_setCell _ P 2 (.int .i64 er)))
    go_wp2
    go_ret
    refine ⟨rfl, ?_, HH.out⟩
    show Blk _ P #[b, .int .i64 (at_ + n), .int .i64 (erN (er != 0))] _
    rw [HER.out]
    exact HF.out
theorem gd_num (xs : List Int) (s : Rd) : gdR 0 (rdNum xs) s = (wrapI (gdR 0 (rdBy xs 8) s).1, (gdR 0 (rdBy xs 8) s).2) := by
  unfold gdR rdNum rdBy
  split
  · rw [show wrapI (0, s).1 = 0 by show wrapI 0 = 0; unfold wrapI wrap64; omega]
  · rfl
theorem gd_many (xs : List Int) (s : Rd) : gdR 0 (rdMany xs) s = gdR 0 (rdBy xs 4) s := rfl

set_option maxHeartbeats 2000000 in
theorem PNumber_any (w : World) (P : Nat) (b : Value) (xs : List Int) (s : Rd) (hB : RdQ w P b s) (hr : Row w b xs) (h0 : 0 ≤ s.at_) (h1 : s.at_ ≤ 1000000000000) :
    Calls Try.prog 33 #[.pointer (some ⟨P, 0, none⟩)] w (SaysQ (.int .i64 (gdR 0 (rdNum xs) s).1) P b (gdR 0 (rdNum xs) s).2 w) := by
  have HC := hide (PBytes_any w P b xs s 8 hB hr h0 h1 (by omega) (by omega))
  rw [gd_num]
  dsimp only
  generalize (gdR 0 (rdBy xs 8) s).1 = v at *
  generalize (gdR 0 (rdBy xs 8) s).2 = s' at *
  unfold wrapI
  clear hB hr
  go_enter Try.func33, Try.ntmps33
  go_wp2_with fail
  refine HC.out.mono ?_
  rintro e w1 ⟨rfl, hB1, hg1⟩
  go_wp2
  go_ret
  exact ⟨rfl, hB1, hg1⟩

set_option maxHeartbeats 2000000 in
theorem PText_any (w : World) (P : Nat) (b : Value) (xs : List Int) (s : Rd) (hB : RdQ w P b s) (hr : Row w b xs) (h0 : 0 ≤ s.at_) (h1 : s.at_ ≤ 1000000000000) :
    Calls Try.prog 48 #[.pointer (some ⟨P, 0, none⟩)] w (SaysQ (.string (gdR ByteArray.empty (rdStr xs) s).1) P b (gdR ByteArray.empty (rdStr xs) s).2 w) := by
  obtain ⟨at_, bad⟩ := s
  simp only at h0 h1
  have HG := hide (fun w' (hb : Row w' b xs) => GetText_any w' b xs at_ hb (wf_i64 (by omega) (by omega)))
  have her := textS_e xs h0
  unfold SaysQ gdR rdStr rdText
  dsimp only
  generalize strOfNums (textS xs at_).1 = v at *
  generalize (textS xs at_).2.1 = na at *
  generalize (textS xs at_).2.2 = er at *
  have HER := hide (erN_ne her)
  have HR := hide hr
  have HB := hide hB
  unfold RdQ at HB
  dsimp only at HB
  have c0 : w.cell? ⟨P, 0, none⟩ = some b := HB.out.cell 0
  have c1 : w.cell? ⟨P, 1, none⟩ = some (.int .i64 at_) := HB.out.cell 1
  have c2 : w.cell? ⟨P, 2, none⟩ = some (.int .i64 (erN bad)) := HB.out.cell 2
  clear hr hB her
  cases bad with
  | true =>
    have c2 : w.cell? ⟨P, 2, none⟩ = some (.int .i64 3) := c2
    go_enter Try.func48, Try.ntmps48
    go_wp2
    go_ret
    exact ⟨rfl, HB.out, World.grownBy.refl _ _⟩
  | false =>
    have c2 : w.cell? ⟨P, 2, none⟩ = some (.int .i64 0) := c2
    go_enter Try.func48, Try.ntmps48
    go_wp2_with fail
    go_quiet (first | (go_at_call 54; refine Calls.quiet_of_same (HG.out _ (by exact HR.out.below (below_drewN (Below.refl _ _) _)))) | fail)
    have HBW : Hid (Blk (w.drewN nq) P _ _) := hide (kl_blk (below_drewN (Below.refl _ _) nq) HB.out)
    have HGW : Hid (w.grownBy (w.drewN nq) (some P)) := hide (below_grown (below_drewN (Below.refl _ _) nq) _)
    clear c0 c1 c2
    have c1 : (w.drewN nq).cell? ⟨P, 1, none⟩ = some (.int .i64 at_) := HBW.out.cell 1
    have c2 : (w.drewN nq).cell? ⟨P, 2, none⟩ = some (.int .i64 0) := HBW.out.cell 2
    have f1 := HBW.out.frozen 1
    have f2 := HBW.out.frozen 2
    generalize w.drewN nq = W at *
    clear HG HR HB
    have HF := hide (show Blk ((W.setCell ⟨P, 1, none⟩ (.int .i64 na)).setCell ⟨P, 2, none⟩ (.int .i64 er)) P #[b, .int .i64 na, .int .i64 er] 53 from (HBW.out.set 1 (.int .i64 na)).set 2 (.int .i64 er))
    have HH := hide (grown_trans (grown_trans HGW.out (grown_setCell W P 1 (.int .i64 na))) (grown_setCell _ P 2 (.int .i64 er)))
    go_wp2
    go_ret
    refine ⟨rfl, ?_, HH.out⟩
    show Blk _ P #[b, .int .i64 na, .int .i64 (erN (er != 0))] _
    rw [HER.out]
    exact HF.out
end Go.Proofs.Ytgkmgpjhpplkiaa
