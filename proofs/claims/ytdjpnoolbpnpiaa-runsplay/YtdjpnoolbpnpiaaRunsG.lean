/-
  The contracts of package runs: lay.
-/
import Derived.Test.YtdjpnoolbpnpiaaRunsF
namespace Go.Proofs.Ytdjpnoolbpnpiaa
open Go.RowKit
set_option linter.unusedVariables false
set_option maxRecDepth 100000

/-- The last run of an owned row. -/
theorem ROwn.last {base : Nat} {w : World} {v : Value} {m : List Rn} {r : Rn} (h : ROwn base w v (m ++ [r])) :
    ∃ g, base ≤ g ∧ g < w.heap.size ∧ v.ownBlock = some g ∧ (∀ w', (Instr.indexAt 23 v (.int .i64 (m.length : Int))).run Try.prog w' = .ok (.pointer (some ⟨g, m.length * 3, none⟩)) w') ∧
      (w.cell? ⟨g, m.length * 3, none⟩ = some (.int .i64 r.f) ∧ w.cell? ⟨g, m.length * 3 + 1, none⟩ = some (.int .i64 r.a) ∧ w.cell? ⟨g, m.length * 3 + 2, none⟩ = some (.int .i64 r.n)) ∧
      w.frozen? ⟨g, m.length * 3 + 2, none⟩ = false ∧ ∀ n', (Lit.int .i64 n').wf = true → ROwn base (w.setCell ⟨g, m.length * 3 + 2, none⟩ (.int .i64 n')) v (m ++ [⟨r.f, r.a, n'⟩]) := by
  have hl : (m ++ [r]).length = m.length + 1 := by simp
  obtain ⟨g, cap, hv, hg1, hg2, hcap⟩ := h.form (by omega)
  have hr : (m ++ [r])[m.length]? = some r := by simp
  have hw := h.2 r (by simp)
  rw [hl] at hv
  subst hv
  refine ⟨g, hg1, hg2, rfl, fun w' => ?_, ⟨?_, ?_, ?_⟩, h.frozenAt hl _, fun n' hn' => ?_⟩
  · rw [run_indexAt_slice _ _ _ _ _ _ _ runsTy]
    simp [sizeRn, Result.andThen, Addr.add_lit]
    intro hh; exfalso; omega
  · have := h.cellAt hl m.length r hr 0 (by omega)
    simpa [Rn.cells] using this
  · have := h.cellAt hl m.length r hr 1 (by omega)
    simpa [Rn.cells] using this
  · have := h.cellAt hl m.length r hr 2 (by omega)
    simpa [Rn.cells] using this
  · have := h.stored hl m.length 2 r ⟨r.f, r.a, n'⟩ (.int .i64 n') hr (by omega) rfl ⟨hw.f, hw.a, hn'⟩
    simpa [List.set_append_right] using this

theorem below_drewN' {B : Nat} {w0 w : World} (h : Below B w0 w) (q : Nat) : Below B w0 (w.drewN q) := ⟨h.os, h.tape, h.output, h.size, h.block⟩
/-- A run in a new block, beside an owned row. -/
theorem app_new {base : Nat} {w0 : World} (W : World) (hb : Below w0.heap.size w0 W) {v : Value} {l : List Rn} (ho : ROwn base W v l) (r : Rn) (hw : ∀ x ∈ [r], x.Wf) :
    ROwn base (W.alloc (.cells #[.int .i64 r.f, .int .i64 r.a, .int .i64 r.n] 39)) v l ∧ RRow (W.alloc (.cells #[.int .i64 r.f, .int .i64 r.a, .int .i64 r.n] 39)) (.slice (some ⟨W.heap.size, 0, none⟩) 1 1) [r] ∧ Below w0.heap.size w0 (W.alloc (.cells #[.int .i64 r.f, .int .i64 r.a, .int .i64 r.n] 39)) :=
  ⟨ho.alloc _, runs_new W [r] _ _ 1 rfl rfl (by simp) hw, hb.alloc hb.size _⟩

set_option maxHeartbeats 4000000 in
theorem lay_any (w : World) (b n : Nat) (f : Nat → Option Int) (h : Tab w b n f) (hf : Fair f) :
    Calls Try.prog 17 #[.map (some b)] w fun e w' => ∃ v, e = .returned v ∧ ROwn w.heap.size w' v (layS f 64) ∧ Below w.heap.size w w' := by
  have HTB := hide h
  have HF := hide hf
  clear h hf
  go_enter Try.func17, Try.ntmps17
  go_wp2
  go_loopw [3, 9] (fun s i wr => ∃ k : Nat, k ≤ 64 ∧ i = .int .i64 k ∧ ROwn w.heap.size wr s (layS f k) ∧ Below w.heap.size w wr) (fun _ i _ => 64 - (intOf i).toNat)
  case atStart => exact ⟨0, Nat.zero_le _, rfl, ROwn.nil _ _, Below.refl _ _⟩
  case round =>
    obtain ⟨k, hk, rfl, hown, hbk⟩ := hrel
    by_cases hlt : k < 64
    · have hlt' : (k : Int) < 64 := by omega
      have hlk := (HTB.out.below hbk).look (k : Int) k rfl hlt
      cases hfk : f k with
      | none =>
        rw [hfk] at hlk
        simp only [Option.getD_none, Option.isSome_none] at hlk
        have HO := hide hown
        rw [← lay_none hfk] at HO
        clear hown hfk
        go_wp2
        exact ⟨⟨k + 1, by omega, by go_num, HO.out, hbk⟩, by simp [intOf]; omega⟩
      | some a =>
        rw [hfk] at hlk
        simp only [Option.getD_some, Option.isSome_some] at hlk
        have hok := lay_ok HF.out k (by omega)
        have hlay := lay_some hfk
        have ha := HF.out k a hlt hfk
        have hsz := hbk.size
        have hrw : ∀ x ∈ [(⟨k, a, 1⟩ : Rn)], x.Wf := by
          intro x hx
          simp at hx
          subst hx
          exact ⟨wf_i64 (by dsimp only; omega) (by dsimp only; omega), wf_i64 (by dsimp only; omega) (by dsimp only; omega), wf_i64 (by simp) (by simp)⟩
        have HRW := hide hrw
        have hBl := Blk.new wr #[.int .i64 k, .int .i64 a, .int .i64 1] 39
        have hB1 : Below w.heap.size w (wr.alloc (.cells #[.int .i64 k, .int .i64 a, .int .i64 1] 39)) := hbk.alloc hbk.size _
        have e0 : (wr.alloc (.cells #[.int .i64 k, .int .i64 a, .int .i64 1] 39)).cell? ⟨wr.heap.size, 0, none⟩ = some (.int .i64 k) := hBl.cell 0
        have e1 : (wr.alloc (.cells #[.int .i64 k, .int .i64 a, .int .i64 1] 39)).cell? ⟨wr.heap.size, 1, none⟩ = some (.int .i64 a) := hBl.cell 1
        have e2 : (wr.alloc (.cells #[.int .i64 k, .int .i64 a, .int .i64 1] 39)).cell? ⟨wr.heap.size, 2, none⟩ = some (.int .i64 1) := hBl.cell 2
        have hown1 := hown.alloc (.cells #[.int .i64 k, .int .i64 a, .int .i64 1] 39)
        have hcl : wr.heap.size < (wr.alloc (.cells #[.int .i64 k, .int .i64 a, .int .i64 1] 39)).heap.size := hBl.lt
        clear hfk hbk hrw hBl
        rcases nil_or_snoc (layS f k) with h0 | ⟨m, r, h0⟩
        · rw [h0] at hown hown1 hlay
          rw [push_nil] at hlay
          have hlr : ∀ (w' : World) (ty : TypeId), (Builtin.len_ #[23] ty #[_]).run Try.prog w' = .ok (.int .i64 0) w' := fun w' ty => hown.row.lenRun w' ty
          have HL := hide hlay
          have HO1 := hide hown1
          clear hown hown1 hlay h0 hok
          go_wp2_with fail
          generalize wr.alloc (.cells #[.int .i64 k, .int .i64 a, .int .i64 1] 39) = W at *
          generalize wr.heap.size = c at *
          go_quiet (fail)
          have hq := fun q => app_new (W.drewN q) (below_drewN' hB1 q) (show ROwn w.heap.size (W.drewN q) _ [] from HO1.out) ⟨k, a, 1⟩ HRW.out
          clear hB1
          go_wp2_with (at_builtin; refine wpList_append_runs rfl _ _ rfl w.heap.size _ _ [] [⟨k, a, 1⟩] rfl (hq _).1 rfl (hq _).2.1 (by simp) (hq _).2.2.size ?_)
          intro v3 w3 hv3 hg3
          have hB3 := (hq _).1.grown_below (hq _).2.2 hg3 (Nat.le_refl _) (hq _).2.2.size
          have HV := hide (show ROwn w.heap.size w3 v3 (layS f (k + 1)) by rw [HL.out]; simpa using hv3)
          clear hv3 hg3 hq
          go_wp2
          exact ⟨⟨k + 1, by omega, by go_num, HV.out, hB3⟩, by simp [intOf]; omega⟩
        · have hri := hok.right
          rw [h0] at hown1 hlay hri hown
          have hparts := right_parts hri
          have hml : m.length + 1 ≤ 64 := by have := len_bound hri; simpa using this
          have hmi := Rn.mild_of r hparts.2.1
          have hwi := within_iff.1 hparts.2.1
          have hlr : ∀ (w' : World) (ty : TypeId), (Builtin.len_ #[23] ty #[_]).run Try.prog w' = .ok (.int .i64 ((m.length : Int) + 1)) w' := fun w' ty => by
            have := hown.row.lenRun w' ty
            simpa using this
          obtain ⟨g, hg1, hg2, hgo, hix, ⟨p0, p1, p2⟩, hfz, hst⟩ := hown1.last
          rw [push_snoc] at hlay
          obtain ⟨rf, ra, rn⟩ := r
          simp only at p0 p1 p2 hlay hwi
          have hgs := fun w => goesOn_any w rf ra rn k a 1 hmi
          obtain ⟨M, hM⟩ : ∃ M, m.length = M := ⟨_, rfl⟩
          obtain ⟨O, hO⟩ : ∃ O, m.length * 3 = O := ⟨_, rfl⟩
          simp only [hM] at hlr hix hml
          rw [hM] at hO
          rw [hM, hO] at p0 p1 p2 hfz
          simp only [hO] at hix
          have HM := hide hM
          have HOO := hide hO
          have hM1 : (M : Int) + 1 ≤ 64 := by omega
          have dk : decide (0 < (M : Int) + 1) = true := decide_eq_true (by omega)
          have dk2 : decide (0 < M + 1) = true := by simp
          have hwk : IntKind.i64.wrap (M : Int) = (M : Int) := in64 _ (by omega)
          have HL := hide hlay
          have HO1 := hide hown1
          clear hown hown1 hlay h0 hok hri hparts hmi hst hM hO
          go_wp2_with fail
          generalize wr.alloc (.cells #[.int .i64 k, .int .i64 a, .int .i64 1] 39) = W at *
          generalize wr.heap.size = c at *
          have HS : Hid (Six g O c ⟨k, a, 1⟩ ⟨rf, ra, rn⟩ W W) := hide ⟨⟨⟨p0, p1, p2⟩, e0, e1, e2⟩, Below.refl _ _⟩
          clear e0 e1 e2 p0 p1 p2 hfz
          go_region_held3 (fun w' => ((w'.cell? ⟨g, O, none⟩ = some (.int .i64 rf) ∧ w'.cell? ⟨g, O + 1, none⟩ = some (.int .i64 ra) ∧ w'.cell? ⟨g, O + 2, none⟩ = some (.int .i64 rn)) ∧
   (w'.cell? ⟨c, 0, none⟩ = some (.int .i64 k) ∧ w'.cell? ⟨c, 1, none⟩ = some (.int .i64 a) ∧ w'.cell? ⟨c, 2, none⟩ = some (.int .i64 1))) ∧ Below W.heap.size W w')
            (first
              | assumption
              | exact Six.step (kl_drew _) HS.out
              | exact Six.step hb9 (show Six g O c ⟨k, a, 1⟩ ⟨rf, ra, rn⟩ W _ by assumption)
              | fail)
            (first
              | (go_at_call 24; refine (hgs _).mono ?_; rintro x w9 ⟨rfl, hb9⟩)
              | fail)
          have hX : Six g O c ⟨k, a, 1⟩ ⟨rf, ra, rn⟩ W w9 := by assumption
          obtain ⟨⟨_, x0, x1, x2⟩, hXb⟩ := hX
          simp only at x0 x1 x2
          have HO9 := hide (HO1.out.kept hXb)
          have hB9 : Below w.heap.size w w9 := hB1.trans (hXb.mono hB1.size)
          clear hB1 hXb hb9
          generalize hge : goesS ⟨rf, ra, rn⟩ ⟨k, a, 1⟩ = ge at *
          cases ge with
          | true =>
            simp only [if_true] at HL
            obtain ⟨g', hg1', hg2', hgo', hix', ⟨p0, p1, p2⟩, hfz, hst⟩ := HO9.out.last
            obtain rfl : g' = g := by rw [hgo] at hgo'; simpa using hgo'.symm
            rw [HM.out, HOO.out] at p2 hfz hst
            simp only at p2 hst
            have hrn : (Lit.int .i64 (rn + 1)).wf = true := wf_i64 (by omega) (by omega)
            have HV := hide (show ROwn w.heap.size (w9.setCell ⟨g', O + 2, none⟩ (.int .i64 (rn + 1))) _ (layS f (k + 1)) by rw [HL.out]; exact hst _ hrn)
            have hB3 : Below w.heap.size w (w9.setCell ⟨g', O + 2, none⟩ (.int .i64 (rn + 1))) := hB9.setCell hg1' _
            clear p0 p1 hst hix' hB9
            go_wp2
            exact ⟨⟨k + 1, by omega, by go_num, HV.out, hB3⟩, by simp [intOf]; omega⟩
          | false =>
            simp only [Bool.false_eq_true, if_false] at HL
            have hq := app_new w9 hB9 HO9.out ⟨k, a, 1⟩ HRW.out
            dsimp only at hq
            have HQ := hide hq
            clear hq hB9
            go_wp2_with (at_builtin; refine wpList_append_runs rfl _ _ rfl w.heap.size u3 _ (m ++ [⟨rf, ra, rn⟩]) [⟨k, a, 1⟩] rfl HQ.out.1 rfl HQ.out.2.1 (by have := HM.out; simp; omega) HQ.out.2.2.size ?_)
            intro v3 w3 hv3 hg3
            have hB3 : Below w.heap.size w w3 := HQ.out.2.2.grown hg3 HQ.out.2.2.size (fun k e => by cases e; exact hg1)
            have HV := hide (show ROwn w.heap.size w3 v3 (layS f (k + 1)) by rw [HL.out]; simpa using hv3)
            clear hv3 hg3 HQ
            go_wp2
            exact ⟨⟨k + 1, by omega, by go_num, HV.out, hB3⟩, by simp [intOf]; omega⟩
    · obtain rfl : k = 64 := by omega
      have HO := hide hown
      clear hown
      go_wp2
      go_ret
      exact ⟨_, rfl, HO.out, hbk⟩
end Go.Proofs.Ytdjpnoolbpnpiaa
