/-
  The document's runsOf, SetRun.
-/
import Derived.Test.YtlfodhffecadoaaInoJ
import Derived.Test.YtlfodhffecadoaaRunsL
namespace Go.Proofs.Ytlfodhffecadoaa
open Go.RowKit
set_option linter.unusedVariables false
set_option maxRecDepth 100000

theorem pl_negN {o : Option Int} (h : o = none) : plOf o = -1 := by rw [h]; rfl
theorem pl_posN {o : Option Int} {a : Int} (h : o = some a) : plOf o = a := by rw [h]; rfl
/-- Places page by page: those of f. -/
def PlacesF (f : Nat → Option Int) (xs : List Int) : Prop := xs.length = 64 ∧ ∀ j, j < 64 → xs.getD j 0 = plOf (f j)

set_option maxHeartbeats 8000000 in
theorem RRunsOf_any (w : World) (v : Value) (xs : List Int) (f : Nat → Option Int) (h : IRow .i64 w v xs) (hp : PlacesF f xs) (hf : Fair f) :
    Calls Try.prog 28 #[v] w fun e w' => ∃ u, e = .returned u ∧ ROwn w.heap.size w' u (layS f 64) ∧ Below w.heap.size w w' := by
  have hlr : ∀ (w' : World) (ty : TypeId), (Builtin.len_ #[43] ty #[v]).run Try.prog w' = .ok (.int .i64 64) w' := fun w' ty => by
    have := h.lenI w' ty
    rw [hp.1] at this
    exact this
  have HX := hide h
  have HPL := hide hp
  have HF := hide hf
  clear h hp hf
  go_enter Try.func28, Try.ntmps28
  go_wp2_with fail
  go_loopw [3, 4] (fun s i wr => ∃ k : Nat, k ≤ 64 ∧ i = .int .i64 k ∧ ROwn w.heap.size wr s (layS f k) ∧ Below w.heap.size w wr) (fun _ i _ => 64 - (intOf i).toNat)
  case atStart => exact ⟨0, Nat.zero_le _, rfl, ROwn.nil _ _, Below.refl _ _⟩
  case round =>
    obtain ⟨k, hk, rfl, hown, hbk⟩ := hrel
    by_cases hlt : k < 64
    · have hlt' : (k : Int) < 64 := by omega
      obtain ⟨bb, oo, hbs, hix0, c0⟩ := (HX.out.below hbk).idxI k (by rw [HPL.out.1]; exact hlt)
      rw [HPL.out.2 k hlt] at c0
      cases hfk : f k with
      | none =>
        rw [pl_negN hfk] at c0
        have HO := hide hown
        rw [← lay_none hfk] at HO
        clear hown hfk hbs
        go_wp2
        exact ⟨⟨k + 1, by omega, by go_num, HO.out, hbk⟩, by simp [intOf]; omega⟩
      | some a =>
        rw [pl_posN hfk] at c0
        have hok := lay_ok HF.out k (by omega)
        have hlay := lay_some hfk
        have ha := HF.out k a hlt hfk
        obtain ⟨ha0, ha1⟩ := ha
        have hsz := hbk.size
        have hrw : ∀ x ∈ [(⟨k, a, 1⟩ : Rn)], x.Wf := by
          intro x hx
          simp at hx
          subst hx
          exact ⟨wf_i64 (by dsimp only; omega) (by dsimp only; omega), wf_i64 (by dsimp only; omega) (by dsimp only; omega), wf_i64 (by simp) (by simp)⟩
        have HRW := hide hrw
        have HBK := hide hbk
        clear hfk hrw hbk hbs
        rcases nil_or_snoc (layS f k) with h0 | ⟨m, r, h0⟩
        · rw [h0] at hown hlay
          rw [push_nil] at hlay
          have hlr2 : ∀ (w' : World) (ty : TypeId), (Builtin.len_ #[23] ty #[_]).run Try.prog w' = .ok (.int .i64 0) w' := fun w' ty => hown.row.lenRun w' ty
          have HL := hide hlay
          have HO1 := hide hown
          clear hown hlay h0 hok
          go_wp2_with fail
          go_quiet (fail)
          have hq := app_new (wr.drewN nq) (bel_drewR HBK.out nq) (show ROwn w.heap.size (wr.drewN nq) _ [] from HO1.out) ⟨k, a, 1⟩ HRW.out
          dsimp only at hq
          have HQ := hide hq
          clear hq
          go_wp2_with (at_builtin; refine wpList_append_runs rfl _ _ rfl w.heap.size u3 _ [] [⟨k, a, 1⟩] rfl HQ.out.1 rfl HQ.out.2.1 (by simp) HQ.out.2.2.size ?_)
          intro v3 w3 hv3 hg3
          have HB3 := hide (HQ.out.1.grown_below HQ.out.2.2 hg3 (Nat.le_refl _) HQ.out.2.2.size)
          have HV := hide (show ROwn w.heap.size w3 v3 (layS f (k + 1)) by rw [HL.out]; simpa using hv3)
          clear hv3 hg3 HQ c0 hix0
          go_wp2
          exact ⟨⟨k + 1, by omega, by go_num, HV.out, HB3.out⟩, by simp [intOf]; omega⟩
        · have hri := hok.right
          rw [h0] at hown hlay hri
          have hparts := right_parts hri
          have hml : m.length + 1 ≤ 64 := by have := len_bound hri; simpa using this
          have hwi := within_iff.1 hparts.2.1
          have hlr2 : ∀ (w' : World) (ty : TypeId), (Builtin.len_ #[23] ty #[_]).run Try.prog w' = .ok (.int .i64 ((m.length : Int) + 1)) w' := fun w' ty => by
            have := hown.row.lenRun w' ty
            simpa using this
          obtain ⟨g, hg1, hg2, hgo, hix, ⟨p0, p1, p2⟩, hfz, hst⟩ := hown.last
          rw [push_snoc] at hlay
          obtain ⟨rf, ra, rn⟩ := r
          simp only at p0 p1 p2 hlay hwi
          obtain ⟨r1, r2, r3, r4, r5⟩ := hwi
          obtain ⟨M, hM⟩ : ∃ M, m.length = M := ⟨_, rfl⟩
          obtain ⟨O, hO⟩ : ∃ O, m.length * 3 = O := ⟨_, rfl⟩
          simp only [hM] at hlr2 hix hml
          rw [hM] at hO
          rw [hM, hO] at p0 p1 p2
          simp only [hO] at hix
          have HM := hide hM
          have HOO := hide hO
          have hM1 : (M : Int) + 1 ≤ 64 := by omega
          have dk : decide (0 < (M : Int) + 1) = true := decide_eq_true (by omega)
          have dk2 : decide (0 < M + 1) = true := by simp
          have hwk : IntKind.i64.wrap (M : Int) = (M : Int) := in64 _ (by omega)
          have hw1 : IntKind.i64.wrap (rf + rn) = rf + rn := in64 _ (by omega)
          have hw2 : IntKind.i64.wrap (ra + rn) = ra + rn := in64 _ (by omega)
          have HGS : Hid (goesS ⟨rf, ra, rn⟩ ⟨k, a, 1⟩ = decide ((k : Int) = rf + rn ∧ a = ra + rn)) := hide rfl
          have HL := hide hlay
          have HO1 := hide hown
          have HG1 := hide hg1
          have HGO := hide hgo
          clear hown hlay h0 hok hri hparts hst hM hO hfz hgo hg1 hg2
          by_cases e1 : rf + rn = (k : Int)
          · have e1' : (rf + rn == (k : Int)) = true := by simpa using e1
            by_cases e2 : ra + rn = a
            · have e2' : (ra + rn == a) = true := by simpa using e2
              have HGT := hide (HGS.out.trans (decide_eq_true ⟨e1.symm, e2.symm⟩))
              clear e1 e2 HGS
              go_wp2_with fail
              go_quiet (fail)
              have HBq := hide (bel_drewR HBK.out nq)
              have HOq := hide (show ROwn w.heap.size (wr.drewN nq) u3 (m ++ [⟨rf, ra, rn⟩]) from HO1.out)
              generalize wr.drewN nq = W at *
              obtain ⟨g', hg1', hg2', hgo', hix', ⟨x0, x1, x2⟩, hfz, hst⟩ := HOq.out.last
              rw [HM.out, HOO.out] at x2 hfz hst
              simp only at x2 hst
              obtain rfl : g = g' := by have := HGO.out.symm.trans hgo'; simpa using this
              have hrn : (Lit.int .i64 (rn + 1)).wf = true := wf_i64 (by omega) (by omega)
              have HV := hide (show ROwn w.heap.size (W.setCell ⟨g, O + 2, none⟩ (.int .i64 (rn + 1))) u3 (layS f (k + 1)) by rw [HL.out, HGT.out]; exact hst _ hrn)
              have HB3 := hide (HBq.out.setCell (p := ⟨g, O + 2, none⟩) hg1' (.int .i64 (rn + 1)))
              clear x0 x1 hst hix' HBq HOq p0 p1 p2 c0 hix0 hgo'
              go_wp2
              exact ⟨⟨k + 1, by omega, by go_num, HV.out, HB3.out⟩, by simp [intOf]; omega⟩
            · have e2' : (ra + rn == a) = false := by simpa using e2
              have HGT := hide (HGS.out.trans (decide_eq_false (fun h => e2 h.2.symm)))
              rw [HGT.out] at HL
              simp only [Bool.false_eq_true, if_false] at HL
              clear e1 e2 HGS HGT
              go_wp2_with fail
              go_quiet (fail)
              have hq := app_new (wr.drewN nq) (bel_drewR HBK.out nq) (show ROwn w.heap.size (wr.drewN nq) u3 _ from HO1.out) ⟨k, a, 1⟩ HRW.out
              dsimp only at hq
              have HQ := hide hq
              clear hq
              go_wp2_with (at_builtin; refine wpList_append_runs rfl _ _ rfl w.heap.size u3 _ (m ++ [⟨rf, ra, rn⟩]) [⟨k, a, 1⟩] rfl HQ.out.1 rfl HQ.out.2.1 (by have := HM.out; simp; omega) HQ.out.2.2.size ?_)
              intro v3 w3 hv3 hg3
              have HB3 := hide (HQ.out.1.grown_below HQ.out.2.2 hg3 (Nat.le_refl _) HQ.out.2.2.size)
              have HV := hide (show ROwn w.heap.size w3 v3 (layS f (k + 1)) by rw [HL.out]; simpa using hv3)
              clear hv3 hg3 HQ p0 p1 p2 c0 hix0 hix
              go_wp2
              exact ⟨⟨k + 1, by omega, by go_num, HV.out, HB3.out⟩, by simp [intOf]; omega⟩
          · have e1' : (rf + rn == (k : Int)) = false := by simpa using e1
            have HGT := hide (HGS.out.trans (decide_eq_false (fun h => e1 h.1.symm)))
            rw [HGT.out] at HL
            simp only [Bool.false_eq_true, if_false] at HL
            clear e1 HGS HGT
            go_wp2_with fail
            go_quiet (fail)
            have hq := app_new (wr.drewN nq) (bel_drewR HBK.out nq) (show ROwn w.heap.size (wr.drewN nq) u3 _ from HO1.out) ⟨k, a, 1⟩ HRW.out
            dsimp only at hq
            have HQ := hide hq
            clear hq
            go_wp2_with (at_builtin; refine wpList_append_runs rfl _ _ rfl w.heap.size u3 _ (m ++ [⟨rf, ra, rn⟩]) [⟨k, a, 1⟩] rfl HQ.out.1 rfl HQ.out.2.1 (by have := HM.out; simp; omega) HQ.out.2.2.size ?_)
            intro v3 w3 hv3 hg3
            have HB3 := hide (HQ.out.1.grown_below HQ.out.2.2 hg3 (Nat.le_refl _) HQ.out.2.2.size)
            have HV := hide (show ROwn w.heap.size w3 v3 (layS f (k + 1)) by rw [HL.out]; simpa using hv3)
            clear hv3 hg3 HQ p0 p1 p2 c0 hix0 hix
            go_wp2
            exact ⟨⟨k + 1, by omega, by go_num, HV.out, HB3.out⟩, by simp [intOf]; omega⟩
    · obtain rfl : k = 64 := by omega
      have HO := hide hown
      clear hown
      go_wp2
      go_ret
      exact ⟨_, rfl, HO.out, hbk⟩
end Go.Proofs.Ytlfodhffecadoaa
