/-
  The document's SetRun: a page that may be, at a place that may be.
-/
import Derived.Test.YtlfodhffecadoaaInoN
namespace Go.Proofs.Ytlfodhffecadoaa
open Go.RowKit
set_option linter.unusedVariables false
set_option maxRecDepth 100000

theorem places_upd {l : List Rn} {xs : List Int} (h : FillP l xs 64) {i : Nat} (hi : i < 64) (a : Int) : PlacesF (updF (tabS l) (i : Int) a) (xs.set i a) := by
  refine ⟨by rw [List.length_set]; exact h.1, fun j hj => ?_⟩
  rw [getD_set (by rw [h.1]; omega)]
  unfold updF
  by_cases e : i = j
  · subst e; rw [if_pos rfl, if_pos rfl]; rfl
  · rw [if_neg e, if_neg (by omega)]; exact h.2 j hj
def newRuns (l : List Rn) (i : Nat) (a : Int) : List Rn := layS (updF (tabS l) (i : Int) a) 64
theorem newRuns_right {l : List Rn} (h : rightS l = true) (i : Nat) {a : Int} (ha : 0 ≤ a ∧ a ≤ 2147483647) : rightS (newRuns l i a) = true := (lay_ok (fair_upd (fair_tab h) ha) 64 (Nat.le_refl _)).right

set_option maxHeartbeats 4000000 in
theorem RSet_any (w : World) (v : Value) (l : List Rn) (i : Nat) (a : Int) (h : RRow w v l) (hr : rightS l = true) (hi : i < 64) (ha : 0 ≤ a ∧ a ≤ 2147483647) :
    Calls Try.prog 17 #[v, .int .i64 (i : Int), .int .i64 a] w fun e w' => ∃ u, e = .returned u ∧ ROwn w.heap.size w' u (newRuns l i a) ∧ Below w.heap.size w w' := by
  have HRW := hide h
  have HRT := hide hr
  have HFA := hide (fair_upd (fair_tab hr) (i := (i : Int)) ha)
  have haw : (Lit.int .i64 a).wf = true := wf_i64 (by omega) (by omega)
  obtain ⟨ha0, ha1⟩ := ha
  have hi0 : (0 : Int) ≤ i := by omega
  have hi1 : (i : Int) < 64 := by omega
  have HAW := hide haw
  clear h hr haw
  go_enter Try.func17, Try.ntmps17
  go_wp2_with fail
  refine (RRightR_any w v l HRW.out).mono ?_
  rintro e w1 ⟨rfl, hb1⟩
  rw [HRT.out]
  have HB1 := hide hb1
  clear hb1
  go_wp2_with fail
  refine (RPlaces_any w1 v l (HRW.out.below HB1.out) HRT.out).mono ?_
  rintro e w2 ⟨g, xs, rfl, hg, ho, hf, hb2⟩
  have HB2 := hide (kl_step hb2 HB1.out)
  have hgl := ho.lt.2
  have hck := ho.cellAt hf.1 i hi
  have hfk := ho.frozenAt hf.1 i
  have HST := hide (ho.stored hf.1 i a HAW.out)
  have HPU := hide (places_upd hf hi a)
  have hgw : w.heap.size ≤ g := Nat.le_trans HB1.out.size hg
  have HB3 := hide (HB2.out.setCell (p := ⟨g, i, none⟩) hgw (.int .i64 a))
  generalize xs.getD i 0 = z at hck
  clear ho hf hb2 hg
  go_wp2_with fail
  refine (RRunsOf_any _ _ _ _ HST.out.row HPU.out HFA.out).mono ?_
  rintro e w4 ⟨u, rfl, hu, hb4⟩
  have HU := hide (hu.mono HB3.out.size)
  have HB4 := hide (kl_step hb4 HB3.out)
  clear hu hb4
  go_wp2
  go_ret
  exact ⟨u, rfl, HU.out, HB4.out⟩
end Go.Proofs.Ytlfodhffecadoaa
