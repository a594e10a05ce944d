/-
  InodeStats: its walk.
-/
import Derived.Deep.RegionWith
import Derived.Deep.RegionHeld3
import Derived.Deep.CutBlock
import Derived.Deep.DeepCutAuto
import Derived.Test.YtlfodhffecadoaaAwake12
import Derived.Test.YtlfodhffecadoaaInoK
import Derived.Test.YtlfodhffecadoaaInoO
import Derived.Test.YtlfodhffecadoaaEntV
import Derived.Test.YtlfodhffecadoaaEntQ
import Derived.Test.YtlfodhffecadoaaIntsI
namespace Go.Proofs.Ytlfodhffecadoaa
open Go.RowKit
set_option linter.unusedVariables false
set_option linter.unusedSimpArgs false
set_option maxRecDepth 100000

theorem getD_memS {l : List ByteArray} {k : Nat} (h : k < l.length) : l.getD k ByteArray.empty ∈ l := by
  simp [List.getD, List.getElem?_eq_getElem h]
theorem add_right {L : List En} {e : En} (h : rightE L = true) (hok : okE L e = true) : rightE (insS L (aboveS L (bl e.s)) e) = true := by
  obtain ⟨h1, h2, h3, h4⟩ := ok_none hok
  obtain ⟨_, hA⟩ := right_asc.1 h
  refine right_asc.2 ⟨?_, asc_ins hA h1 h2 h3⟩
  rw [ins_length _ _ _ (above_le _ _)]
  omega
theorem wrap_tmod (x : Int) {J : Int} (h : wrap64 ((IntKind.u64.wrap x).tmod 64) = J) : IntKind.i64.wrap ((IntKind.u64.wrap x).tmod 64) = J := by
  have z0 : 0 ≤ (IntKind.u64.wrap x).tmod 64 := Int.tmod_nonneg _ (by rw [IntKind.wrap_u64]; omega)
  have z1 : (IntKind.u64.wrap x).tmod 64 < 64 := Int.tmod_lt_of_pos _ (by decide)
  generalize (IntKind.u64.wrap x).tmod 64 = z at *
  unfold wrap64 at h
  rw [in64 z (by omega)]
  omega
/-- What region 6 keeps. -/
theorem n6_step {D b o : Nat} {ev : Value} {s : ByteArray} {w0 w w' : World} (hb : Below w.heap.size w w') (h : (w.cell? ⟨D, 5, none⟩ = some ev ∧ w.cell? ⟨b, o, none⟩ = some (.string s)) ∧ Below w0.heap.size w0 w) :
    (w'.cell? ⟨D, 5, none⟩ = some ev ∧ w'.cell? ⟨b, o, none⟩ = some (.string s)) ∧ Below w0.heap.size w0 w' := ⟨⟨kl_cell hb h.1.1, kl_cell hb h.1.2⟩, kl_step hb h.2⟩

/-- The two inodes, d with its entries, f with its runs. -/
structure Pair (w : World) (D F : Nat) (ev rv : Value) (L : List En) (R : List Rn) (fk fl fs : Int) (wr : World) : Prop where
  d : Blk wr D #[.int .i64 5, .int .i64 2, .int .i64 2, .int .i64 0, .string ⟨#[]⟩, ev, .slice none 0 0] 25
  f : Blk wr F #[.int .i64 (if fk = 1 then 6 else 0), .int .i64 fk, .int .i64 fl, .int .i64 fs, .string ⟨#[]⟩, .slice none 0 0, rv] 25
  e : EOwn (F + 1) wr ev L
  r : ROwn (F + 1) wr rv R
  le : rightE L = true
  lr : rightS R = true
  b : Below w.heap.size w wr
theorem Pair.step {w w1 w2 : World} {D F : Nat} {ev rv : Value} {L : List En} {R : List Rn} {fk fl fs : Int} (h : Pair w D F ev rv L R fk fl fs w1) (hb : Below w1.heap.size w1 w2) : Pair w D F ev rv L R fk fl fs w2 :=
  ⟨kl_blk hb h.d, kl_blk hb h.f, h.e.kept hb, h.r.kept hb, h.le, h.lr, kl_step hb h.b⟩
theorem Pair.setD {w w1 : World} {D F : Nat} {ev rv : Value} {L : List En} {R : List Rn} {fk fl fs : Int} (h : Pair w D F ev rv L R fk fl fs w1) (hD : w.heap.size ≤ D) (hDF : D < F) {u : Value} {L' : List En} (hu : EOwn (F + 1) w1 u L') (hl : rightE L' = true) :
    Pair w D F u rv L' R fk fl fs (w1.setCell ⟨D, 5, none⟩ u) := by
  have hg := grown_setCell w1 D 5 u
  have hr : ∀ k, some D = some k → k < F + 1 := fun k e => by cases e; omega
  exact ⟨h.d.set 5 u, h.f.kept hg (by simp; omega), hu.grown hg hr, h.r.grown hg hr, hl, h.lr, h.b.setCell (p := ⟨D, 5, none⟩) hD u⟩
theorem Pair.setF {w w1 : World} {D F : Nat} {ev rv : Value} {L : List En} {R : List Rn} {fk fl fs : Int} (h : Pair w D F ev rv L R fk fl fs w1) (hD : w.heap.size ≤ D) (hDF : D < F) {u : Value} {R' : List Rn} (hu : ROwn (F + 1) w1 u R') (hl : rightS R' = true) :
    Pair w D F ev u L R' fk fl fs (w1.setCell ⟨F, 6, none⟩ u) := by
  have hg := grown_setCell w1 F 6 u
  have hr : ∀ k, some F = some k → k < F + 1 := fun k e => by cases e; omega
  exact ⟨h.d.kept hg (by simp; omega), h.f.set 6 u, h.e.grown hg hr, hu.grown hg hr, h.le, hl, h.b.setCell (p := ⟨F, 6, none⟩) (by show w.heap.size ≤ F; omega) u⟩
theorem Pair.setS {w w1 : World} {D F : Nat} {ev rv : Value} {L : List En} {R : List Rn} {fk fl fs : Int} (h : Pair w D F ev rv L R fk fl fs w1) (hD : w.heap.size ≤ D) (hDF : D < F) (z : Int) :
    Pair w D F ev rv L R fk fl z (w1.setCell ⟨F, 3, none⟩ (.int .i64 z)) := by
  have hg := grown_setCell w1 F 3 (.int .i64 z)
  have hr : ∀ k, some F = some k → k < F + 1 := fun k e => by cases e; omega
  exact ⟨h.d.kept hg (by simp; omega), h.f.set 3 _, h.e.grown hg hr, h.r.grown hg hr, h.le, h.lr, h.b.setCell (p := ⟨F, 3, none⟩) (by show w.heap.size ≤ F; omega) _⟩

theorem Pair.newF {w w1 : World} {D F : Nat} {ev : Value} {L : List En} (h : Pair w D F ev (.slice none 0 0) L [] 0 0 0 w1) (hD : w.heap.size ≤ D) (hDF : D < F) :
    Pair w D F ev (.slice none 0 0) L [] 1 1 0 (((((((w1.setCell ⟨F, 0, none⟩ (.int .i64 6)).setCell ⟨F, 1, none⟩ (.int .i64 1)).setCell ⟨F, 2, none⟩ (.int .i64 1)).setCell ⟨F, 3, none⟩ (.int .i64 0)).setCell ⟨F, 4, none⟩ (.string ByteArray.empty)).setCell ⟨F, 5, none⟩ (.slice none 0 0)).setCell ⟨F, 6, none⟩ (.slice none 0 0)) := by
  have hne : D ≠ F := by omega
  have hr : ∀ k, some F = some k → k < F + 1 := fun k e => by cases e; omega
  refine ⟨?_, blk_over h.f _ _ _ _ _ _ _, ?_, ROwn.nil _ _, h.le, rfl, below_over h.b (by omega) _ _ _ _ _ _ _⟩
  · exact (((((((h.d.kept (grown_setCell _ F 0 _) (by simpa using hne)).kept (grown_setCell _ F 1 _) (by simpa using hne)).kept (grown_setCell _ F 2 _) (by simpa using hne)).kept (grown_setCell _ F 3 _) (by simpa using hne)).kept (grown_setCell _ F 4 _) (by simpa using hne)).kept (grown_setCell _ F 5 _) (by simpa using hne)).kept (grown_setCell _ F 6 _) (by simpa using hne))
  · exact ((((((h.e.grown (grown_setCell _ F 0 _) hr).grown (grown_setCell _ F 1 _) hr).grown (grown_setCell _ F 2 _) hr).grown (grown_setCell _ F 3 _) hr).grown (grown_setCell _ F 4 _) hr).grown (grown_setCell _ F 5 _) hr).grown (grown_setCell _ F 6 _) hr

/-- What the last two regions keep. -/
def TwoS (w0 : World) (D F : Nat) (ev rv : Value) (sz : Int) (w' : World) : Prop :=
  (w'.cell? ⟨D, 0, none⟩ = some (.int .i64 5) ∧ w'.cell? ⟨D, 1, none⟩ = some (.int .i64 2) ∧ w'.cell? ⟨D, 2, none⟩ = some (.int .i64 2) ∧ w'.cell? ⟨D, 3, none⟩ = some (.int .i64 0) ∧ w'.cell? ⟨D, 4, none⟩ = some (.string ⟨#[]⟩) ∧ w'.cell? ⟨D, 5, none⟩ = some ev ∧ w'.cell? ⟨D, 6, none⟩ = some (.slice none 0 0) ∧ w'.cell? ⟨F, 0, none⟩ = some (.int .i64 6) ∧ w'.cell? ⟨F, 1, none⟩ = some (.int .i64 1) ∧ w'.cell? ⟨F, 2, none⟩ = some (.int .i64 1) ∧ w'.cell? ⟨F, 3, none⟩ = some (.int .i64 sz) ∧ w'.cell? ⟨F, 4, none⟩ = some (.string ⟨#[]⟩) ∧ w'.cell? ⟨F, 5, none⟩ = some (.slice none 0 0) ∧ w'.cell? ⟨F, 6, none⟩ = some rv) ∧ Below w0.heap.size w0 w'
theorem TwoS.step {w0 : World} {D F : Nat} {ev rv : Value} {sz : Int} {w w' : World} (hb : Below w.heap.size w w') (h : TwoS w0 D F ev rv sz w) : TwoS w0 D F ev rv sz w' := by
  obtain ⟨⟨d0, d1, d2, d3, d4, d5, d6, f0, f1, f2, f3, f4, f5, f6⟩, h2⟩ := h
  exact ⟨⟨kl_cell hb d0, kl_cell hb d1, kl_cell hb d2, kl_cell hb d3, kl_cell hb d4, kl_cell hb d5, kl_cell hb d6, kl_cell hb f0, kl_cell hb f1, kl_cell hb f2, kl_cell hb f3, kl_cell hb f4, kl_cell hb f5, kl_cell hb f6⟩, kl_step hb h2⟩
theorem cell_over {w : World} {B R i : Nat} {v : Value} (h : w.cell? ⟨B, i, none⟩ = some v) (hne : B ≠ R) (vs : List Value) : (w.setCells R 0 vs).cell? ⟨B, i, none⟩ = some v :=
  (World.cell?_setCells_out R vs 0 w ⟨B, i, none⟩ (fun e => absurd e hne)).trans h
theorem TwoS.over {w0 : World} {D F R : Nat} {ev rv : Value} {sz : Int} {w : World} (h : TwoS w0 D F ev rv sz w) (hD : D ≠ R) (hF : F ≠ R) (hR : w0.heap.size ≤ R) (vs : List Value) : TwoS w0 D F ev rv sz (w.setCells R 0 vs) := by
  obtain ⟨⟨d0, d1, d2, d3, d4, d5, d6, f0, f1, f2, f3, f4, f5, f6⟩, h2⟩ := h
  exact ⟨⟨cell_over d0 hD vs, cell_over d1 hD vs, cell_over d2 hD vs, cell_over d3 hD vs, cell_over d4 hD vs, cell_over d5 hD vs, cell_over d6 hD vs, cell_over f0 hF vs, cell_over f1 hF vs, cell_over f2 hF vs, cell_over f3 hF vs, cell_over f4 hF vs, cell_over f5 hF vs, cell_over f6 hF vs⟩, Lib.below_setCells R hR vs 0 h2⟩
theorem Pair.two {w w1 : World} {D F : Nat} {ev rv : Value} {L : List En} {R : List Rn} {sz : Int} (h : Pair w D F ev rv L R 1 1 sz w1) : TwoS w1 D F ev rv sz w1 :=
  ⟨⟨h.d.cell 0, h.d.cell 1, h.d.cell 2, h.d.cell 3, h.d.cell 4, h.d.cell 5, h.d.cell 6, h.f.cell 0, h.f.cell 1, h.f.cell 2, h.f.cell 3, h.f.cell 4, h.f.cell 5, h.f.cell 6⟩, Below.refl _ _⟩
section
variable {P : Program} {l ri rj rk : List Oper} {Q : Exit → Act → World → Prop} {md : Region.Mode} {S : World → Prop} {fuel : Nat} {listed : Array Bool} {a : Act} {w : World} {oi oj ok : Oper}
/-- Three may come up. -/
theorem any_three (i j k : Nat) (hr : Region.ready md l.toArray listed = [i, j, k]) (hdi : l.drop i = oi :: ri) (hdj : l.drop j = oj :: rj) (hdk : l.drop k = ok :: rk) (hwi : Region.wanted oi (yielded l.toArray a.tmps) = true) (hwj : Region.wanted oj (yielded l.toArray a.tmps) = true) (hwk : Region.wanted ok (yielded l.toArray a.tmps) = true)
    (hi : ∀ K' : Act → World → Prop, Shut (∀ a w, S w → (S w → wpAnyH P md l.toArray Q S fuel (listed.setIfInBounds i true) a w) → K' a w) → Oper.wp P oi a w K' Q)
    (hj : ∀ K' : Act → World → Prop, Shut (∀ a w, S w → (S w → wpAnyH P md l.toArray Q S fuel (listed.setIfInBounds j true) a w) → K' a w) → Oper.wp P oj a w K' Q)
    (hk : ∀ K' : Act → World → Prop, Shut (∀ a w, S w → (S w → wpAnyH P md l.toArray Q S fuel (listed.setIfInBounds k true) a w) → K' a w) → Oper.wp P ok a w K' Q) : wpAnyH P md l.toArray Q S (fuel + 1) listed a w :=
  wpAnyH_ready hr (by simp) (AllReadyH.cons (drop_get hdi) (fun K' hK => by rw [if_pos hwi]; exact hi K' hK) (AllReadyH.cons (drop_get hdj) (fun K' hK => by rw [if_pos hwj]; exact hj K' hK) (AllReadyH.cons (drop_get hdk) (fun K' hK => by rw [if_pos hwk]; exact hk K' hK) .nil)))
end

theorem five {W : World} {B : Nat} {a b c d n : Value} {T : TypeId} (h : Blk W B #[a, b, c, d, n] T) :
    W.cell? ⟨B, 0, none⟩ = some a ∧ W.cell? ⟨B, 1, none⟩ = some b ∧ W.cell? ⟨B, 2, none⟩ = some c ∧ W.cell? ⟨B, 3, none⟩ = some d ∧ W.cell? ⟨B, 4, none⟩ = some n :=
  ⟨h.cell 0, h.cell 1, h.cell 2, h.cell 3, h.cell 4⟩
theorem rightD_ok {L : List En} (h : rightE L = true) : rightI ⟨5, 2, 2, 0, ⟨#[]⟩, L, []⟩ = true := by
  unfold rightI rightKind rightDir
  simp [h, show bl ⟨#[]⟩ = [] from rfl]
theorem rightF_ok {R : List Rn} (h : rightS R = true) {sz : Int} (h0 : 0 ≤ sz) (h1 : sz < 9000) : rightI ⟨6, 1, 1, sz, ⟨#[]⟩, [], R⟩ = true := by
  unfold rightI rightKind rightFile
  simp [h, show bl ⟨#[]⟩ = [] from rfl]
  omega
/-- What the last region keeps. -/
def FourS (w0 : World) (D F g h : Nat) (ev rv : Value) (sz ll pc : Int) (w' : World) : Prop :=
  ((w'.cell? ⟨D, 0, none⟩ = some (.int .i64 5) ∧ w'.cell? ⟨D, 1, none⟩ = some (.int .i64 2) ∧ w'.cell? ⟨D, 2, none⟩ = some (.int .i64 2) ∧ w'.cell? ⟨D, 3, none⟩ = some (.int .i64 0) ∧ w'.cell? ⟨D, 4, none⟩ = some (.string ⟨#[]⟩) ∧ w'.cell? ⟨D, 5, none⟩ = some ev ∧ w'.cell? ⟨D, 6, none⟩ = some (.slice none 0 0) ∧ w'.cell? ⟨F, 0, none⟩ = some (.int .i64 6) ∧ w'.cell? ⟨F, 1, none⟩ = some (.int .i64 1) ∧ w'.cell? ⟨F, 2, none⟩ = some (.int .i64 1) ∧ w'.cell? ⟨F, 3, none⟩ = some (.int .i64 sz) ∧ w'.cell? ⟨F, 4, none⟩ = some (.string ⟨#[]⟩) ∧ w'.cell? ⟨F, 5, none⟩ = some (.slice none 0 0) ∧ w'.cell? ⟨F, 6, none⟩ = some rv) ∧ (w'.cell? ⟨g, 0, none⟩ = some (.int .i64 5) ∧ w'.cell? ⟨g, 1, none⟩ = some (.int .i64 2) ∧ w'.cell? ⟨g, 2, none⟩ = some (.int .i64 2) ∧ w'.cell? ⟨g, 3, none⟩ = some (.int .i64 ll) ∧ w'.cell? ⟨g, 4, none⟩ = some (.int .i64 0)) ∧ (w'.cell? ⟨h, 0, none⟩ = some (.int .i64 6) ∧ w'.cell? ⟨h, 1, none⟩ = some (.int .i64 1) ∧ w'.cell? ⟨h, 2, none⟩ = some (.int .i64 1) ∧ w'.cell? ⟨h, 3, none⟩ = some (.int .i64 sz) ∧ w'.cell? ⟨h, 4, none⟩ = some (.int .i64 pc))) ∧ Below w0.heap.size w0 w'
theorem FourS.step {w0 : World} {D F g h : Nat} {ev rv : Value} {sz ll pc : Int} {w w' : World} (hb : Below w.heap.size w w') (hh : FourS w0 D F g h ev rv sz ll pc w) : FourS w0 D F g h ev rv sz ll pc w' := by
  obtain ⟨⟨⟨d0, d1, d2, d3, d4, d5, d6, f0, f1, f2, f3, f4, f5, f6⟩, ⟨g0, g1, g2, g3, g4⟩, h0, h1, h2, h3, h4⟩, hq⟩ := hh
  exact ⟨⟨⟨kl_cell hb d0, kl_cell hb d1, kl_cell hb d2, kl_cell hb d3, kl_cell hb d4, kl_cell hb d5, kl_cell hb d6, kl_cell hb f0, kl_cell hb f1, kl_cell hb f2, kl_cell hb f3, kl_cell hb f4, kl_cell hb f5, kl_cell hb f6⟩,
    ⟨kl_cell hb g0, kl_cell hb g1, kl_cell hb g2, kl_cell hb g3, kl_cell hb g4⟩, kl_cell hb h0, kl_cell hb h1, kl_cell hb h2, kl_cell hb h3, kl_cell hb h4⟩, kl_step hb hq⟩

set_option maxHeartbeats 16000000 in
theorem InodeStats_walk (a0 : Value) (names : List ByteArray) (a1 : Int) (a2 : Value) (pages : List Int) (w : World) (w0 : SRow w a0 names) (w1 : (Lit.int .i64 a1).wf = true) (w2 : IRow .i64 w a2 pages) :
    Calls Try.prog 6 #[a0, .int .i64 a1, a2] w fun e w' => e = .returned (.bool true) ∧ Below w.heap.size w w' := by
  have hn1 := w0.lenRun
  have hn2 := w0.len
  have hp1 := w2.lenII
  have hp2 := w2.len
  unfold maxLen at hn2 hp2
  have HN := hide w0
  have HP := hide w2
  obtain ⟨V0, hV0⟩ : ∃ W, W = w.alloc (.cells #[.int .i64 0, .int .i64 0, .int .i64 0, .int .i64 0, .string ⟨#[]⟩, .slice none 0 0, .slice none 0 0] 25) := ⟨_, rfl⟩
  obtain ⟨V, hV⟩ : ∃ W, W = V0.alloc (.cells #[.int .i64 0, .int .i64 0, .int .i64 0, .int .i64 0, .string ⟨#[]⟩, .slice none 0 0, .slice none 0 0] 25) := ⟨_, rfl⟩
  have hb0 : Below w.heap.size w V0 := by rw [hV0]; exact kl_alloc w _
  have hB0 : Blk V0 w.heap.size #[.int .i64 0, .int .i64 0, .int .i64 0, .int .i64 0, .string ⟨#[]⟩, .slice none 0 0, .slice none 0 0] 25 := by rw [hV0]; exact Blk.new w _ _
  have hsz : V0.heap.size = w.heap.size + 1 := by rw [hV0]; simp
  have hb1 : Below V0.heap.size V0 V := by rw [hV]; exact kl_alloc V0 _
  have hB1 : Blk V (w.heap.size + 1) #[.int .i64 0, .int .i64 0, .int .i64 0, .int .i64 0, .string ⟨#[]⟩, .slice none 0 0, .slice none 0 0] 25 := by rw [hV, ← hsz]; exact Blk.new V0 _ _
  have HD := hide (kl_blk hb1 hB0)
  have HF := hide hB1
  have HBV := hide (kl_step hb1 hb0)
  have HV0 := hide hV0
  have HV := hide hV
  have HW1 := hide w1
  clear w0 w1 w2 hb0 hB0 hsz hb1 hB1 hV0 hV
  obtain ⟨nn, hnn⟩ : ∃ n, names.length = n := ⟨_, rfl⟩
  obtain ⟨pp, hpp⟩ : ∃ n, pages.length = n := ⟨_, rfl⟩
  simp only [hnn] at hn1 hn2
  simp only [hpp] at hp1 hp2
  have HNN := hide hnn
  have HPP := hide hpp
  clear hnn hpp
  go_enter Try.func6, Try.ntmps6
  go_upto_region 2 with fail
  rw [← HV0.out, ← HV.out]
  clear HV0 HV
  obtain ⟨D, hD⟩ : ∃ D, D = w.heap.size := ⟨_, rfl⟩
  rw [← hD] at HD HF ⊢
  have HQ := hide hD
  clear hD
  obtain ⟨F, hF⟩ : ∃ F, F = D + 1 := ⟨_, rfl⟩
  rw [← hF] at HF ⊢
  have HFD := hide hF
  clear hF
  have hnew := fun w => New_any w 5 2 ByteArray.empty (by decide) (by unfold maxLen; decide)
  unfold SaysI newI at hnew
  simp only [if_true, show ¬ (2 : Int) = 3 by decide, if_false] at hnew
  go_wp2_with fail
  refine (hnew V).mono ?_
  rintro e w3 ⟨rfl, hb3⟩
  have HD3 := hide (kl_blk hb3 HD.out)
  have HF3 := hide (kl_blk hb3 HF.out)
  have HB3 := hide (kl_step hb3 HBV.out)
  clear hb3 hnew HD HF HBV
  obtain ⟨c0, c1, c2, c3, c4, c5, c6⟩ := seven HD3.out
  have f0 := HD3.out.frozen 0
  have f1 := HD3.out.frozen 1
  have f2 := HD3.out.frozen 2
  have f3 := HD3.out.frozen 3
  have f4 := HD3.out.frozen 4
  have f5 := HD3.out.frozen 5
  have f6 := HD3.out.frozen 6
  have hDD : w.heap.size ≤ D := by rw [HQ.out]; exact Nat.le_refl _
  have hDF : D < F := by rw [HFD.out]; omega
  have HX := hide (show Pair w D F (.slice none 0 0) (.slice none 0 0) [] [] 0 0 0 _ from
    ⟨blk_over HD3.out (.int .i64 5) (.int .i64 2) (.int .i64 2) (.int .i64 0) (.string ByteArray.empty) (.slice none 0 0) (.slice none 0 0),
     by
      have hne : F ≠ D := by rw [HFD.out]; omega
      exact (((((((HF3.out.kept (grown_setCell w3 D 0 _) (by simpa using hne)).kept (grown_setCell _ D 1 _) (by simpa using hne)).kept (grown_setCell _ D 2 _) (by simpa using hne)).kept (grown_setCell _ D 3 _) (by simpa using hne)).kept (grown_setCell _ D 4 _) (by simpa using hne)).kept (grown_setCell _ D 5 _) (by simpa using hne)).kept (grown_setCell _ D 6 _) (by simpa using hne)),
     EOwn.nil _ _, ROwn.nil _ _, rfl, rfl, below_over HB3.out hDD _ _ _ _ _ _ _⟩)
  go_upto_region 3 with fail
  clear c0 c1 c2 c3 c4 c5 c6 f0 f1 f2 f3 f4 f5 f6
  go_wp2_with fail
  go_loopw [9] (fun i wr => ∃ (k : Nat) (L : List En) (ev : Value), k ≤ nn ∧ k ≤ 50 ∧ i = .int .i64 k ∧ Hid (Pair w D F ev (.slice none 0 0) L [] 0 0 0 wr)) (fun i _ => 50 - (intOf i).toNat)
  case atStart => exact ⟨0, [], _, Nat.zero_le _, Nat.zero_le _, rfl, HX⟩
  case round =>
    obtain ⟨k, L, ev, hk, hk5, rfl, HPR⟩ := hrel
    go_upto_region 4 with fail
    go_cut [23] (fun c wx => c = .bool (decide (k < min nn 50)) ∧ wx = wr)
    case first =>
      by_cases h1 : k < nn
      · have h1' : (k : Int) < nn := by omega
        by_cases h2 : k < 50
        · have h2' : (k : Int) < 50 := by omega
          go_wp2
          go_meet
          exact ⟨congrArg Value.bool (decide_eq_true (by omega)).symm, rfl⟩
        · have h2' : ¬ (k : Int) < 50 := by omega
          go_wp2
          go_meet
          exact ⟨congrArg Value.bool (decide_eq_false (by omega)).symm, rfl⟩
      · have h1' : ¬ (k : Int) < nn := by omega
        go_wp2
        go_meet
        exact ⟨congrArg Value.bool (decide_eq_false (by omega)).symm, rfl⟩
    case rest =>
      obtain ⟨hc, rfl⟩ := hcut
      by_cases hlt : k < min nn 50
      · rw [decide_eq_true hlt] at hc
        subst hc
        have hkn : k < nn := by omega
        have hk50 : k < 50 := by omega
        have hkn' : (k : Int) < nn := by omega
        have hkz : k < names.length := by rw [HNN.out]; exact hkn
        obtain ⟨b, o, hbs, hix, cn⟩ := (HN.out.below HPR.out.b).idx k hkz
        have hsm := HN.out.small _ (getD_memS hkz)
        generalize names.getD k ByteArray.empty = s at *
        have c5 : wc.cell? ⟨D, 5, none⟩ = some ev := HPR.out.d.cell 5
        have HWF := hide (show (⟨s, (k : Int) + 1⟩ : En).Wf from ⟨hsm, wf_i64 (by dsimp only; omega) (by dsimp only; omega)⟩)
        have HLL := hide (show L.length ≤ 1000000 by have := rightE_len HPR.out.le; omega)
        have HADD := hide (fun (w8 : World) (hb : Below wc.heap.size wc w8) => RAdd_any w8 ev L s ((k : Int) + 1) (HPR.out.e.kept hb).row HLL.out HWF.out)
        have hwk : IntKind.i64.wrap ((k : Int) + 1) = (k : Int) + 1 := in64 _ (by omega)
        clear hbs hsm hlt
        go_wp2_with fail
        go_region_held3 (fun w' => (w'.cell? ⟨D, 5, none⟩ = some ev ∧ w'.cell? ⟨b, o, none⟩ = some (.string s)) ∧ Below wc.heap.size wc w')
          (first
            | assumption
            | exact n6_step (kl_drew _) ⟨⟨c5, cn⟩, Below.refl _ _⟩
            | exact n6_step hb9 (show (_ ∧ _) ∧ Below wc.heap.size wc _ by assumption)
            | fail)
          (first
            | (go_at_call 16
               have hS8 := And.right (show (_ ∧ _) ∧ Below wc.heap.size wc _ by assumption)
               refine (HADD.out _ hS8).mono ?_
               rintro x w9 ⟨u, rfl, hu, hb9⟩
               have HU := hide (hu.mono (show F + 1 ≤ _ from Nat.le_trans HPR.out.f.lt hS8.size))
               clear hu hS8)
            | fail)
        have hS9 := And.right (show (_ ∧ _) ∧ Below wc.heap.size wc w9 by assumption)
        have HP9 := hide (HPR.out.step hS9)
        have d5 : w9.cell? ⟨D, 5, none⟩ = some ev := HP9.out.d.cell 5
        have g5 := HP9.out.d.frozen 5
        clear hS9 c5 cn hix hb9
        cases hok : okE L ⟨s, (k : Int) + 1⟩ with
        | true =>
          have hay := add_yes hok
          rw [hay] at HU ⊢
          obtain ⟨uo, un, uc, rfl⟩ : ∃ ao ln cap, u = .slice ao ln cap := by
            obtain ⟨ao, cap, e⟩ := HU.out.row.of_len
            exact ⟨ao, _, cap, e⟩
          have HPN := hide (HP9.out.setD hDD hDF HU.out (add_right HP9.out.le hok))
          clear hay hok
          go_wp2
          exact ⟨⟨k + 1, _, _, by omega, by omega, by go_num, HPN⟩, by simp [intOf]; omega⟩
        | false =>
          have han := add_no hok
          generalize (addS L ⟨s, (k : Int) + 1⟩).2 = er at *
          have han' : (er == 0) = false := by simpa using han
          clear han hok
          go_wp2
          exact ⟨⟨k + 1, L, ev, by omega, by omega, by go_num, HP9⟩, by simp [intOf]; omega⟩
      · rw [decide_eq_false hlt] at hc
        subst hc
        clear HX hlt hk hk5
        obtain ⟨sz, hsz, eS⟩ := cut_i a1 9000 (by omega) (by omega)
        have HES := hide eS
        clear eS
        have hnew := fun w => New_any w 6 1 ByteArray.empty (by decide) (by unfold maxLen; decide)
        unfold SaysI newI at hnew
        simp only [show ¬ (1 : Int) = 2 by decide, show ¬ (1 : Int) = 3 by decide, if_false] at hnew
        have HNW := hide hnew
        clear hnew
        go_wp2_with fail
        refine (HNW.out _).mono ?_
        rintro e w5 ⟨rfl, hb5⟩
        have HP5 := hide (HPR.out.step hb5)
        clear hb5 HNW HPR
        obtain ⟨c0, c1, c2, c3, c4, c5, c6⟩ := seven HP5.out.f
        have f0 := HP5.out.f.frozen 0
        have f1 := HP5.out.f.frozen 1
        have f2 := HP5.out.f.frozen 2
        have f3 := HP5.out.f.frozen 3
        have f4 := HP5.out.f.frozen 4
        have f5 := HP5.out.f.frozen 5
        have f6 := HP5.out.f.frozen 6
        have HP6 := hide (HP5.out.newF hDD hDF)
        go_upto_region 10 with fail
        clear c0 c1 c2 c3 c4 c5 c6 f0 f1 f2 f3 f4 f5 f6 HP5
        obtain ⟨X6, hX6, HP7⟩ : ∃ X, X = _ ∧ Hid (Pair w D F ev (.slice none 0 0) L [] 1 1 0 X) := ⟨_, rfl, HP6⟩
        rw [← hX6]
        clear hX6 HP6
        have c3 : X6.cell? ⟨F, 3, none⟩ = some (.int .i64 0) := HP7.out.f.cell 3
        have f3 := HP7.out.f.frozen 3
        have HP8 := hide (HP7.out.setS hDD hDF (sz : Int))
        go_upto_region 11 with fail
        rw [HES.out]
        clear c3 f3 HP7 HES
        obtain ⟨X8, hX8, HP9⟩ : ∃ X, X = _ ∧ Hid (Pair w D F ev (.slice none 0 0) L [] 1 1 (sz : Int) X) := ⟨_, rfl, HP8⟩
        rw [← hX8]
        clear hX8 HP8
        have HSZ := hide hsz
        clear hsz
        go_wp2_with fail
        go_loopw [12] (fun i wr => ∃ (k : Nat) (R : List Rn) (rv : Value), k ≤ pp ∧ k ≤ 20 ∧ i = .int .i64 k ∧ Hid (Pair w D F ev rv L R 1 1 (sz : Int) wr)) (fun i _ => 20 - (intOf i).toNat)
        case atStart => exact ⟨0, [], _, Nat.zero_le _, Nat.zero_le _, rfl, HP9⟩
        case round =>
          clear HP9
          obtain ⟨k, R, rv, hk, hk2, rfl, HPR⟩ := hrel
          go_upto_region 12 with fail
          go_cut [56] (fun c wx => c = .bool (decide (k < min pp 20)) ∧ wx = wr)
          case first =>
            by_cases h1 : k < pp
            · have h1' : (k : Int) < pp := by omega
              by_cases h2 : k < 20
              · have h2' : (k : Int) < 20 := by omega
                go_wp2
                go_meet
                exact ⟨congrArg Value.bool (decide_eq_true (by omega)).symm, rfl⟩
              · have h2' : ¬ (k : Int) < 20 := by omega
                go_wp2
                go_meet
                exact ⟨congrArg Value.bool (decide_eq_false (by omega)).symm, rfl⟩
            · have h1' : ¬ (k : Int) < pp := by omega
              go_wp2
              go_meet
              exact ⟨congrArg Value.bool (decide_eq_false (by omega)).symm, rfl⟩
          case rest =>
            obtain ⟨hc, rfl⟩ := hcut
            by_cases hlt : k < min pp 20
            · rw [decide_eq_true hlt] at hc
              subst hc
              have hkn : k < pp := by omega
              have hk20 : k < 20 := by omega
              have hkn' : (k : Int) < pp := by omega
              have hkz : k < pages.length := by rw [HPP.out]; exact hkn
              obtain ⟨b, o, hbs, hix, cn⟩ := (HP.out.below HPR.out.b).idxII k hkz
              generalize pages.getD k 0 = pg at *
              obtain ⟨J, hJ, eJ⟩ := cut_i pg 64 (by omega) (by omega)
              have hJ' : J < 64 := by omega
              have HEJ := hide (wrap_tmod pg eJ)
              have e1 : IntKind.i64.wrap (3 * (k : Int)) = 3 * (k : Int) := in64 _ (by omega)
              have e2 : IntKind.i64.wrap (100 + 3 * (k : Int)) = 100 + 3 * (k : Int) := in64 _ (by omega)
              have c6 : wc.cell? ⟨F, 6, none⟩ = some rv := HPR.out.f.cell 6
              have HSET := hide (fun (w8 : World) (hb : Below wc.heap.size wc w8) => RSet_any w8 rv R J (100 + 3 * (k : Int)) (HPR.out.r.kept hb).row HPR.out.lr hJ' ⟨by omega, by omega⟩)
              have HNR := hide (newRuns_right HPR.out.lr J (a := 100 + 3 * (k : Int)) ⟨by omega, by omega⟩)
              clear hbs hlt hJ eJ hJ'
              go_wp2_with fail
              go_region_with (first
                | (go_at_call 17
                   rw [HEJ.out]
                   refine (HSET.out _ (kl_drew wc)).mono ?_
                   rintro x w9 ⟨u, rfl, hu, hb9⟩
                   have HP9 := hide ((HPR.out.step (kl_drew wc)).step hb9)
                   have HU := hide (hu.mono (show F + 1 ≤ _ from HPR.out.f.lt))
                   obtain ⟨uo, un, uc, rfl⟩ : ∃ ao ln cap, u = .slice ao ln cap := by
                     obtain ⟨ao, cap, e⟩ := HU.out.row.of_len
                     exact ⟨ao, _, cap, e⟩
                   have y6 : w9.cell? ⟨F, 6, none⟩ = some rv := HP9.out.f.cell 6
                   have g6 := HP9.out.f.frozen 6
                   clear hu hb9)
                | fail)
              all_goals
                have HPN := hide (HP9.out.setF hDD hDF HU.out HNR.out)
                clear HP9 HU y6 g6
                go_wp2
                exact ⟨⟨k + 1, _, _, by omega, by omega, by go_num, HPN⟩, by simp [intOf]; omega⟩
            · rw [decide_eq_false hlt] at hc
              subst hc
              clear hlt hk hk2
              generalize wc = Y at *
              obtain ⟨ll, hll⟩ : ∃ z : Int, z = (L.length : Int) := ⟨_, rfl⟩
              obtain ⟨pc, hpc⟩ : ∃ z : Int, z = ((pagesL R).length : Int) := ⟨_, rfl⟩
              have HLL := hide hll
              have HPC := hide hpc
              clear hll hpc
              have HSD := hide (fun (w8 : World) (hb : Below Y.heap.size Y w8) => show Calls Try.prog 13 #[.agg #[.int .i64 5, .int .i64 2, .int .i64 2, .int .i64 0, .string ⟨#[]⟩, ev, .slice none 0 0]] w8 (fun e w' => e = .returned (.agg #[.int .i64 5, .int .i64 2, .int .i64 2, .int .i64 ll, .int .i64 0]) ∧ Below w8.heap.size w8 w') from by
                rw [HLL.out]
                exact Stat_any w8 5 2 2 0 ⟨#[]⟩ ev (.slice none 0 0) L [] (HPR.out.e.kept hb).row (RRow.nil w8))
              have HSF := hide (fun (w8 : World) (hb : Below Y.heap.size Y w8) => show Calls Try.prog 13 #[.agg #[.int .i64 6, .int .i64 1, .int .i64 1, .int .i64 sz, .string ⟨#[]⟩, .slice none 0 0, rv]] w8 (fun e w' => e = .returned (.agg #[.int .i64 6, .int .i64 1, .int .i64 1, .int .i64 sz, .int .i64 pc]) ∧ Below w8.heap.size w8 w') from by
                rw [HPC.out, pagesL_len]
                exact Stat_any w8 6 1 1 sz ⟨#[]⟩ (.slice none 0 0) rv [] R (ERow.nil w8) (HPR.out.r.kept hb).row)
              have HTS := hide HPR.out.two
              have HDl := hide HPR.out.d.lt
              have HFl := hide HPR.out.f.lt
              go_upto_region 15 with fail
              go_cut [13, 14] (fun p q wx => ∃ g h, p = .pointer (some ⟨g, 0, none⟩) ∧ q = .pointer (some ⟨h, 0, none⟩) ∧ Blk wx g #[.int .i64 5, .int .i64 2, .int .i64 2, .int .i64 ll, .int .i64 0] 31 ∧ Blk wx h #[.int .i64 6, .int .i64 1, .int .i64 1, .int .i64 sz, .int .i64 pc] 31 ∧ Below Y.heap.size Y wx)
              case first =>
                clear HPR HLL HPC HN HP HNN HPP hn1 hn2 hp1 hp2 HW1 HSZ HQ HFD hDD hDF
                refine wp_region_held_drew (S := fun w' => (w'.cell? ⟨D, 0, none⟩ = some (.int .i64 5) ∧ w'.cell? ⟨D, 1, none⟩ = some (.int .i64 2) ∧ w'.cell? ⟨D, 2, none⟩ = some (.int .i64 2) ∧ w'.cell? ⟨D, 3, none⟩ = some (.int .i64 0) ∧ w'.cell? ⟨D, 4, none⟩ = some (.string ⟨#[]⟩) ∧ w'.cell? ⟨D, 5, none⟩ = some ev ∧ w'.cell? ⟨D, 6, none⟩ = some (.slice none 0 0) ∧ w'.cell? ⟨F, 0, none⟩ = some (.int .i64 6) ∧ w'.cell? ⟨F, 1, none⟩ = some (.int .i64 1) ∧ w'.cell? ⟨F, 2, none⟩ = some (.int .i64 1) ∧ w'.cell? ⟨F, 3, none⟩ = some (.int .i64 sz) ∧ w'.cell? ⟨F, 4, none⟩ = some (.string ⟨#[]⟩) ∧ w'.cell? ⟨F, 5, none⟩ = some (.slice none 0 0) ∧ w'.cell? ⟨F, 6, none⟩ = some rv) ∧ Below Y.heap.size Y w') (by kernel_rfl) (TwoS.step (kl_drew _) HTS.out) (fun hS => ?_)
                generalize Y.drew = W0 at *
                refine any_yes 0 (.agg #[.int .i64 5, .int .i64 2, .int .i64 2, .int .i64 0, .string ⟨#[]⟩, ev, .slice none 0 0]) rfl (by kernel_rfl) (by kernel_rfl) (by kernel_rfl) (fun _ _ _ h => h) (by rfl) (by intro w hSw; obtain ⟨⟨d0, d1, d2, d3, d4, d5, d6, f0, f1, f2, f3, f4, f5, f6⟩, g9⟩ := hSw; go_simp) (by assumption) ?_
                try simp only [Act.put, List.setIfInBounds_toArray, List.set_cons_zero, List.set_cons_succ]
                refine any_yes 2 (.agg #[.int .i64 6, .int .i64 1, .int .i64 1, .int .i64 sz, .string ⟨#[]⟩, .slice none 0 0, rv]) rfl (by kernel_rfl) (by kernel_rfl) (by kernel_rfl) (fun _ _ _ h => h) (by rfl) (by intro w hSw; obtain ⟨⟨d0, d1, d2, d3, d4, d5, d6, f0, f1, f2, f3, f4, f5, f6⟩, g9⟩ := hSw; go_simp) (by assumption) ?_
                try simp only [Act.put, List.setIfInBounds_toArray, List.set_cons_zero, List.set_cons_succ]
                refine any_three 1 4 5 (by kernel_rfl) rfl rfl rfl (by rfl) (by rfl) (by rfl) (fun K' hK => ?_) (fun K' hK => ?_) (fun K' hK => ?_)
                · skip
                  go_simp
                  refine (HSD.out _ hS.2).mono ?_
                  rintro x w101 ⟨rfl, hb101⟩
                  go_simp
                  refine hK.out _ _ (TwoS.step hb101 hS) (fun hS1 => ?_)
                  clear hK K'
                  try simp only [Act.put, List.setIfInBounds_toArray, List.set_cons_zero, List.set_cons_succ]
                  clear hb101
                  refine any_three 3 4 5 (by kernel_rfl) rfl rfl rfl (by rfl) (by rfl) (by rfl) (fun K' hK => ?_) (fun K' hK => ?_) (fun K' hK => ?_)
                  · skip
                    go_simp
                    refine (HSF.out _ hS1.2).mono ?_
                    rintro x w102 ⟨rfl, hb102⟩
                    go_simp
                    refine hK.out _ _ (TwoS.step hb102 hS1) (fun hS2 => ?_)
                    clear hK K'
                    try simp only [Act.put, List.setIfInBounds_toArray, List.set_cons_zero, List.set_cons_succ]
                    clear hb102
                    refine any_two 4 5 (by kernel_rfl) rfl rfl (by rfl) (by rfl) (fun K' hK => ?_) (fun K' hK => ?_)
                    · skip
                      go_simp
                      refine hK.out _ _ (TwoS.step (kl_alloc w102 _) hS2) (fun hS3 => ?_)
                      clear hK K'
                      try simp only [Act.put, List.setIfInBounds_toArray, List.set_cons_zero, List.set_cons_succ]
                      have HZ4 := hide (Blk.new w102 #[.int .i64 0, .int .i64 0, .int .i64 0, .int .i64 0, .int .i64 0] 31)
                      have HG4 := hide hS2.2.size
                      generalize w102.alloc (.cells #[.int .i64 0, .int .i64 0, .int .i64 0, .int .i64 0, .int .i64 0] 31) = X3 at *
                      refine any_one 5 (by kernel_rfl) rfl (by rfl) (fun K' hK => ?_)
                      go_simp
                      refine hK.out _ _ (TwoS.step (kl_alloc X3 _) hS3) (fun hS4 => ?_)
                      clear hK K'
                      try simp only [Act.put, List.setIfInBounds_toArray, List.set_cons_zero, List.set_cons_succ]
                      have HN4 := hide (Nat.ne_of_lt HZ4.out.lt)
                      have HZ4 := hide (kl_blk (kl_alloc X3 (.cells #[.int .i64 0, .int .i64 0, .int .i64 0, .int .i64 0, .int .i64 0] 31)) HZ4.out)
                      have HZ5 := hide (Blk.new X3 #[.int .i64 0, .int .i64 0, .int .i64 0, .int .i64 0, .int .i64 0] 31)
                      have HG5 := hide hS3.2.size
                      generalize X3.alloc (.cells #[.int .i64 0, .int .i64 0, .int .i64 0, .int .i64 0, .int .i64 0] 31) = X4 at *
                      refine any_one 6 (by kernel_rfl) rfl (by rfl) (fun K' hK => ?_)
                      refine wp_store_mid 31 _ _ rfl w102.heap.size 0 #[.int .i64 5, .int .i64 2, .int .i64 2, .int .i64 ll, .int .i64 0] rfl rfl HZ4.out.there (by kernel_rfl) (by simp [Value.oneCell']) ?_
                      refine hK.out _ _ (TwoS.over hS4 (Nat.ne_of_lt (Nat.lt_of_lt_of_le HDl.out HG4.out)) (Nat.ne_of_lt (Nat.lt_of_lt_of_le HFl.out HG4.out)) HG4.out _) (fun hT5 => ?_)
                      clear hK K'
                      try simp only [Act.put, List.setIfInBounds_toArray, List.set_cons_zero, List.set_cons_succ]
                      have HZ4 := hide (blk_over5 HZ4.out (.int .i64 5) (.int .i64 2) (.int .i64 2) (.int .i64 ll) (.int .i64 0))
                      have HZ5 := hide (HZ5.out.overOther (Ne.symm HN4.out) (.int .i64 5) (.int .i64 2) (.int .i64 2) (.int .i64 ll) (.int .i64 0))
                      refine any_one 7 (by kernel_rfl) rfl (by rfl) (fun K' hK => ?_)
                      refine wp_store_mid 31 _ _ rfl X3.heap.size 0 #[.int .i64 6, .int .i64 1, .int .i64 1, .int .i64 sz, .int .i64 pc] rfl rfl HZ5.out.there (by kernel_rfl) (by simp [Value.oneCell']) ?_
                      refine hK.out _ _ (TwoS.over hT5 (Nat.ne_of_lt (Nat.lt_of_lt_of_le HDl.out HG5.out)) (Nat.ne_of_lt (Nat.lt_of_lt_of_le HFl.out HG5.out)) HG5.out _) (fun hU5 => ?_)
                      clear hK K'
                      refine wpAnyH_done (by kernel_rfl) ?_ _
                      go_wp2
                      go_meet
                      exact ⟨_, _, rfl, rfl, HZ4.out.overOther HN4.out _ _ _ _ _, blk_over5 HZ5.out _ _ _ _ _, hU5.2⟩
                    · skip
                      go_simp
                      refine hK.out _ _ (TwoS.step (kl_alloc w102 _) hS2) (fun hS6 => ?_)
                      clear hK K'
                      try simp only [Act.put, List.setIfInBounds_toArray, List.set_cons_zero, List.set_cons_succ]
                      have HZ5 := hide (Blk.new w102 #[.int .i64 0, .int .i64 0, .int .i64 0, .int .i64 0, .int .i64 0] 31)
                      have HG5 := hide hS2.2.size
                      generalize w102.alloc (.cells #[.int .i64 0, .int .i64 0, .int .i64 0, .int .i64 0, .int .i64 0] 31) = X6 at *
                      refine any_one 4 (by kernel_rfl) rfl (by rfl) (fun K' hK => ?_)
                      go_simp
                      refine hK.out _ _ (TwoS.step (kl_alloc X6 _) hS6) (fun hS7 => ?_)
                      clear hK K'
                      try simp only [Act.put, List.setIfInBounds_toArray, List.set_cons_zero, List.set_cons_succ]
                      have HN5 := hide (Nat.ne_of_lt HZ5.out.lt)
                      have HZ5 := hide (kl_blk (kl_alloc X6 (.cells #[.int .i64 0, .int .i64 0, .int .i64 0, .int .i64 0, .int .i64 0] 31)) HZ5.out)
                      have HZ4 := hide (Blk.new X6 #[.int .i64 0, .int .i64 0, .int .i64 0, .int .i64 0, .int .i64 0] 31)
                      have HG4 := hide hS6.2.size
                      generalize X6.alloc (.cells #[.int .i64 0, .int .i64 0, .int .i64 0, .int .i64 0, .int .i64 0] 31) = X7 at *
                      refine any_one 6 (by kernel_rfl) rfl (by rfl) (fun K' hK => ?_)
                      refine wp_store_mid 31 _ _ rfl X6.heap.size 0 #[.int .i64 5, .int .i64 2, .int .i64 2, .int .i64 ll, .int .i64 0] rfl rfl HZ4.out.there (by kernel_rfl) (by simp [Value.oneCell']) ?_
                      refine hK.out _ _ (TwoS.over hS7 (Nat.ne_of_lt (Nat.lt_of_lt_of_le HDl.out HG4.out)) (Nat.ne_of_lt (Nat.lt_of_lt_of_le HFl.out HG4.out)) HG4.out _) (fun hT8 => ?_)
                      clear hK K'
                      try simp only [Act.put, List.setIfInBounds_toArray, List.set_cons_zero, List.set_cons_succ]
                      have HZ4 := hide (blk_over5 HZ4.out (.int .i64 5) (.int .i64 2) (.int .i64 2) (.int .i64 ll) (.int .i64 0))
                      have HZ5 := hide (HZ5.out.overOther HN5.out (.int .i64 5) (.int .i64 2) (.int .i64 2) (.int .i64 ll) (.int .i64 0))
                      refine any_one 7 (by kernel_rfl) rfl (by rfl) (fun K' hK => ?_)
                      refine wp_store_mid 31 _ _ rfl w102.heap.size 0 #[.int .i64 6, .int .i64 1, .int .i64 1, .int .i64 sz, .int .i64 pc] rfl rfl HZ5.out.there (by kernel_rfl) (by simp [Value.oneCell']) ?_
                      refine hK.out _ _ (TwoS.over hT8 (Nat.ne_of_lt (Nat.lt_of_lt_of_le HDl.out HG5.out)) (Nat.ne_of_lt (Nat.lt_of_lt_of_le HFl.out HG5.out)) HG5.out _) (fun hU8 => ?_)
                      clear hK K'
                      refine wpAnyH_done (by kernel_rfl) ?_ _
                      go_wp2
                      go_meet
                      exact ⟨_, _, rfl, rfl, HZ4.out.overOther (Ne.symm HN5.out) _ _ _ _ _, blk_over5 HZ5.out _ _ _ _ _, hU8.2⟩
                  · skip
                    go_simp
                    refine hK.out _ _ (TwoS.step (kl_alloc w101 _) hS1) (fun hS9 => ?_)
                    clear hK K'
                    try simp only [Act.put, List.setIfInBounds_toArray, List.set_cons_zero, List.set_cons_succ]
                    have HZ4 := hide (Blk.new w101 #[.int .i64 0, .int .i64 0, .int .i64 0, .int .i64 0, .int .i64 0] 31)
                    have HG4 := hide hS1.2.size
                    generalize w101.alloc (.cells #[.int .i64 0, .int .i64 0, .int .i64 0, .int .i64 0, .int .i64 0] 31) = X9 at *
                    refine any_two 3 5 (by kernel_rfl) rfl rfl (by rfl) (by rfl) (fun K' hK => ?_) (fun K' hK => ?_)
                    · skip
                      go_simp
                      refine (HSF.out _ hS9.2).mono ?_
                      rintro x w110 ⟨rfl, hb110⟩
                      go_simp
                      refine hK.out _ _ (TwoS.step hb110 hS9) (fun hS10 => ?_)
                      clear hK K'
                      try simp only [Act.put, List.setIfInBounds_toArray, List.set_cons_zero, List.set_cons_succ]
                      have HZ4 := hide (kl_blk hb110 HZ4.out)
                      clear hb110
                      refine any_one 5 (by kernel_rfl) rfl (by rfl) (fun K' hK => ?_)
                      go_simp
                      refine hK.out _ _ (TwoS.step (kl_alloc w110 _) hS10) (fun hS11 => ?_)
                      clear hK K'
                      try simp only [Act.put, List.setIfInBounds_toArray, List.set_cons_zero, List.set_cons_succ]
                      have HN4 := hide (Nat.ne_of_lt HZ4.out.lt)
                      have HZ4 := hide (kl_blk (kl_alloc w110 (.cells #[.int .i64 0, .int .i64 0, .int .i64 0, .int .i64 0, .int .i64 0] 31)) HZ4.out)
                      have HZ5 := hide (Blk.new w110 #[.int .i64 0, .int .i64 0, .int .i64 0, .int .i64 0, .int .i64 0] 31)
                      have HG5 := hide hS10.2.size
                      generalize w110.alloc (.cells #[.int .i64 0, .int .i64 0, .int .i64 0, .int .i64 0, .int .i64 0] 31) = X11 at *
                      refine any_one 6 (by kernel_rfl) rfl (by rfl) (fun K' hK => ?_)
                      refine wp_store_mid 31 _ _ rfl w101.heap.size 0 #[.int .i64 5, .int .i64 2, .int .i64 2, .int .i64 ll, .int .i64 0] rfl rfl HZ4.out.there (by kernel_rfl) (by simp [Value.oneCell']) ?_
                      refine hK.out _ _ (TwoS.over hS11 (Nat.ne_of_lt (Nat.lt_of_lt_of_le HDl.out HG4.out)) (Nat.ne_of_lt (Nat.lt_of_lt_of_le HFl.out HG4.out)) HG4.out _) (fun hT12 => ?_)
                      clear hK K'
                      try simp only [Act.put, List.setIfInBounds_toArray, List.set_cons_zero, List.set_cons_succ]
                      have HZ4 := hide (blk_over5 HZ4.out (.int .i64 5) (.int .i64 2) (.int .i64 2) (.int .i64 ll) (.int .i64 0))
                      have HZ5 := hide (HZ5.out.overOther (Ne.symm HN4.out) (.int .i64 5) (.int .i64 2) (.int .i64 2) (.int .i64 ll) (.int .i64 0))
                      refine any_one 7 (by kernel_rfl) rfl (by rfl) (fun K' hK => ?_)
                      refine wp_store_mid 31 _ _ rfl w110.heap.size 0 #[.int .i64 6, .int .i64 1, .int .i64 1, .int .i64 sz, .int .i64 pc] rfl rfl HZ5.out.there (by kernel_rfl) (by simp [Value.oneCell']) ?_
                      refine hK.out _ _ (TwoS.over hT12 (Nat.ne_of_lt (Nat.lt_of_lt_of_le HDl.out HG5.out)) (Nat.ne_of_lt (Nat.lt_of_lt_of_le HFl.out HG5.out)) HG5.out _) (fun hU12 => ?_)
                      clear hK K'
                      refine wpAnyH_done (by kernel_rfl) ?_ _
                      go_wp2
                      go_meet
                      exact ⟨_, _, rfl, rfl, HZ4.out.overOther HN4.out _ _ _ _ _, blk_over5 HZ5.out _ _ _ _ _, hU12.2⟩
                    · skip
                      go_simp
                      refine hK.out _ _ (TwoS.step (kl_alloc X9 _) hS9) (fun hS13 => ?_)
                      clear hK K'
                      try simp only [Act.put, List.setIfInBounds_toArray, List.set_cons_zero, List.set_cons_succ]
                      have HN4 := hide (Nat.ne_of_lt HZ4.out.lt)
                      have HZ4 := hide (kl_blk (kl_alloc X9 (.cells #[.int .i64 0, .int .i64 0, .int .i64 0, .int .i64 0, .int .i64 0] 31)) HZ4.out)
                      have HZ5 := hide (Blk.new X9 #[.int .i64 0, .int .i64 0, .int .i64 0, .int .i64 0, .int .i64 0] 31)
                      have HG5 := hide hS9.2.size
                      generalize X9.alloc (.cells #[.int .i64 0, .int .i64 0, .int .i64 0, .int .i64 0, .int .i64 0] 31) = X13 at *
                      refine any_one 3 (by kernel_rfl) rfl (by rfl) (fun K' hK => ?_)
                      go_simp
                      refine (HSF.out _ hS13.2).mono ?_
                      rintro x w114 ⟨rfl, hb114⟩
                      go_simp
                      refine hK.out _ _ (TwoS.step hb114 hS13) (fun hS14 => ?_)
                      clear hK K'
                      try simp only [Act.put, List.setIfInBounds_toArray, List.set_cons_zero, List.set_cons_succ]
                      have HZ4 := hide (kl_blk hb114 HZ4.out)
                      have HZ5 := hide (kl_blk hb114 HZ5.out)
                      clear hb114
                      refine any_one 6 (by kernel_rfl) rfl (by rfl) (fun K' hK => ?_)
                      refine wp_store_mid 31 _ _ rfl w101.heap.size 0 #[.int .i64 5, .int .i64 2, .int .i64 2, .int .i64 ll, .int .i64 0] rfl rfl HZ4.out.there (by kernel_rfl) (by simp [Value.oneCell']) ?_
                      refine hK.out _ _ (TwoS.over hS14 (Nat.ne_of_lt (Nat.lt_of_lt_of_le HDl.out HG4.out)) (Nat.ne_of_lt (Nat.lt_of_lt_of_le HFl.out HG4.out)) HG4.out _) (fun hT15 => ?_)
                      clear hK K'
                      try simp only [Act.put, List.setIfInBounds_toArray, List.set_cons_zero, List.set_cons_succ]
                      have HZ4 := hide (blk_over5 HZ4.out (.int .i64 5) (.int .i64 2) (.int .i64 2) (.int .i64 ll) (.int .i64 0))
                      have HZ5 := hide (HZ5.out.overOther (Ne.symm HN4.out) (.int .i64 5) (.int .i64 2) (.int .i64 2) (.int .i64 ll) (.int .i64 0))
                      refine any_one 7 (by kernel_rfl) rfl (by rfl) (fun K' hK => ?_)
                      refine wp_store_mid 31 _ _ rfl X9.heap.size 0 #[.int .i64 6, .int .i64 1, .int .i64 1, .int .i64 sz, .int .i64 pc] rfl rfl HZ5.out.there (by kernel_rfl) (by simp [Value.oneCell']) ?_
                      refine hK.out _ _ (TwoS.over hT15 (Nat.ne_of_lt (Nat.lt_of_lt_of_le HDl.out HG5.out)) (Nat.ne_of_lt (Nat.lt_of_lt_of_le HFl.out HG5.out)) HG5.out _) (fun hU15 => ?_)
                      clear hK K'
                      refine wpAnyH_done (by kernel_rfl) ?_ _
                      go_wp2
                      go_meet
                      exact ⟨_, _, rfl, rfl, HZ4.out.overOther HN4.out _ _ _ _ _, blk_over5 HZ5.out _ _ _ _ _, hU15.2⟩
                  · skip
                    go_simp
                    refine hK.out _ _ (TwoS.step (kl_alloc w101 _) hS1) (fun hS16 => ?_)
                    clear hK K'
                    try simp only [Act.put, List.setIfInBounds_toArray, List.set_cons_zero, List.set_cons_succ]
                    have HZ5 := hide (Blk.new w101 #[.int .i64 0, .int .i64 0, .int .i64 0, .int .i64 0, .int .i64 0] 31)
                    have HG5 := hide hS1.2.size
                    generalize w101.alloc (.cells #[.int .i64 0, .int .i64 0, .int .i64 0, .int .i64 0, .int .i64 0] 31) = X16 at *
                    refine any_two 3 4 (by kernel_rfl) rfl rfl (by rfl) (by rfl) (fun K' hK => ?_) (fun K' hK => ?_)
                    · skip
                      go_simp
                      refine (HSF.out _ hS16.2).mono ?_
                      rintro x w117 ⟨rfl, hb117⟩
                      go_simp
                      refine hK.out _ _ (TwoS.step hb117 hS16) (fun hS17 => ?_)
                      clear hK K'
                      try simp only [Act.put, List.setIfInBounds_toArray, List.set_cons_zero, List.set_cons_succ]
                      have HZ5 := hide (kl_blk hb117 HZ5.out)
                      clear hb117
                      refine any_one 4 (by kernel_rfl) rfl (by rfl) (fun K' hK => ?_)
                      go_simp
                      refine hK.out _ _ (TwoS.step (kl_alloc w117 _) hS17) (fun hS18 => ?_)
                      clear hK K'
                      try simp only [Act.put, List.setIfInBounds_toArray, List.set_cons_zero, List.set_cons_succ]
                      have HN5 := hide (Nat.ne_of_lt HZ5.out.lt)
                      have HZ5 := hide (kl_blk (kl_alloc w117 (.cells #[.int .i64 0, .int .i64 0, .int .i64 0, .int .i64 0, .int .i64 0] 31)) HZ5.out)
                      have HZ4 := hide (Blk.new w117 #[.int .i64 0, .int .i64 0, .int .i64 0, .int .i64 0, .int .i64 0] 31)
                      have HG4 := hide hS17.2.size
                      generalize w117.alloc (.cells #[.int .i64 0, .int .i64 0, .int .i64 0, .int .i64 0, .int .i64 0] 31) = X18 at *
                      refine any_one 6 (by kernel_rfl) rfl (by rfl) (fun K' hK => ?_)
                      refine wp_store_mid 31 _ _ rfl w117.heap.size 0 #[.int .i64 5, .int .i64 2, .int .i64 2, .int .i64 ll, .int .i64 0] rfl rfl HZ4.out.there (by kernel_rfl) (by simp [Value.oneCell']) ?_
                      refine hK.out _ _ (TwoS.over hS18 (Nat.ne_of_lt (Nat.lt_of_lt_of_le HDl.out HG4.out)) (Nat.ne_of_lt (Nat.lt_of_lt_of_le HFl.out HG4.out)) HG4.out _) (fun hT19 => ?_)
                      clear hK K'
                      try simp only [Act.put, List.setIfInBounds_toArray, List.set_cons_zero, List.set_cons_succ]
                      have HZ4 := hide (blk_over5 HZ4.out (.int .i64 5) (.int .i64 2) (.int .i64 2) (.int .i64 ll) (.int .i64 0))
                      have HZ5 := hide (HZ5.out.overOther HN5.out (.int .i64 5) (.int .i64 2) (.int .i64 2) (.int .i64 ll) (.int .i64 0))
                      refine any_one 7 (by kernel_rfl) rfl (by rfl) (fun K' hK => ?_)
                      refine wp_store_mid 31 _ _ rfl w101.heap.size 0 #[.int .i64 6, .int .i64 1, .int .i64 1, .int .i64 sz, .int .i64 pc] rfl rfl HZ5.out.there (by kernel_rfl) (by simp [Value.oneCell']) ?_
                      refine hK.out _ _ (TwoS.over hT19 (Nat.ne_of_lt (Nat.lt_of_lt_of_le HDl.out HG5.out)) (Nat.ne_of_lt (Nat.lt_of_lt_of_le HFl.out HG5.out)) HG5.out _) (fun hU19 => ?_)
                      clear hK K'
                      refine wpAnyH_done (by kernel_rfl) ?_ _
                      go_wp2
                      go_meet
                      exact ⟨_, _, rfl, rfl, HZ4.out.overOther (Ne.symm HN5.out) _ _ _ _ _, blk_over5 HZ5.out _ _ _ _ _, hU19.2⟩
                    · skip
                      go_simp
                      refine hK.out _ _ (TwoS.step (kl_alloc X16 _) hS16) (fun hS20 => ?_)
                      clear hK K'
                      try simp only [Act.put, List.setIfInBounds_toArray, List.set_cons_zero, List.set_cons_succ]
                      have HN5 := hide (Nat.ne_of_lt HZ5.out.lt)
                      have HZ5 := hide (kl_blk (kl_alloc X16 (.cells #[.int .i64 0, .int .i64 0, .int .i64 0, .int .i64 0, .int .i64 0] 31)) HZ5.out)
                      have HZ4 := hide (Blk.new X16 #[.int .i64 0, .int .i64 0, .int .i64 0, .int .i64 0, .int .i64 0] 31)
                      have HG4 := hide hS16.2.size
                      generalize X16.alloc (.cells #[.int .i64 0, .int .i64 0, .int .i64 0, .int .i64 0, .int .i64 0] 31) = X20 at *
                      refine any_one 3 (by kernel_rfl) rfl (by rfl) (fun K' hK => ?_)
                      go_simp
                      refine (HSF.out _ hS20.2).mono ?_
                      rintro x w121 ⟨rfl, hb121⟩
                      go_simp
                      refine hK.out _ _ (TwoS.step hb121 hS20) (fun hS21 => ?_)
                      clear hK K'
                      try simp only [Act.put, List.setIfInBounds_toArray, List.set_cons_zero, List.set_cons_succ]
                      have HZ5 := hide (kl_blk hb121 HZ5.out)
                      have HZ4 := hide (kl_blk hb121 HZ4.out)
                      clear hb121
                      refine any_one 6 (by kernel_rfl) rfl (by rfl) (fun K' hK => ?_)
                      refine wp_store_mid 31 _ _ rfl X16.heap.size 0 #[.int .i64 5, .int .i64 2, .int .i64 2, .int .i64 ll, .int .i64 0] rfl rfl HZ4.out.there (by kernel_rfl) (by simp [Value.oneCell']) ?_
                      refine hK.out _ _ (TwoS.over hS21 (Nat.ne_of_lt (Nat.lt_of_lt_of_le HDl.out HG4.out)) (Nat.ne_of_lt (Nat.lt_of_lt_of_le HFl.out HG4.out)) HG4.out _) (fun hT22 => ?_)
                      clear hK K'
                      try simp only [Act.put, List.setIfInBounds_toArray, List.set_cons_zero, List.set_cons_succ]
                      have HZ4 := hide (blk_over5 HZ4.out (.int .i64 5) (.int .i64 2) (.int .i64 2) (.int .i64 ll) (.int .i64 0))
                      have HZ5 := hide (HZ5.out.overOther HN5.out (.int .i64 5) (.int .i64 2) (.int .i64 2) (.int .i64 ll) (.int .i64 0))
                      refine any_one 7 (by kernel_rfl) rfl (by rfl) (fun K' hK => ?_)
                      refine wp_store_mid 31 _ _ rfl w101.heap.size 0 #[.int .i64 6, .int .i64 1, .int .i64 1, .int .i64 sz, .int .i64 pc] rfl rfl HZ5.out.there (by kernel_rfl) (by simp [Value.oneCell']) ?_
                      refine hK.out _ _ (TwoS.over hT22 (Nat.ne_of_lt (Nat.lt_of_lt_of_le HDl.out HG5.out)) (Nat.ne_of_lt (Nat.lt_of_lt_of_le HFl.out HG5.out)) HG5.out _) (fun hU22 => ?_)
                      clear hK K'
                      refine wpAnyH_done (by kernel_rfl) ?_ _
                      go_wp2
                      go_meet
                      exact ⟨_, _, rfl, rfl, HZ4.out.overOther (Ne.symm HN5.out) _ _ _ _ _, blk_over5 HZ5.out _ _ _ _ _, hU22.2⟩
                · skip
                  go_simp
                  refine hK.out _ _ (TwoS.step (kl_alloc W0 _) hS) (fun hS23 => ?_)
                  clear hK K'
                  try simp only [Act.put, List.setIfInBounds_toArray, List.set_cons_zero, List.set_cons_succ]
                  have HZ4 := hide (Blk.new W0 #[.int .i64 0, .int .i64 0, .int .i64 0, .int .i64 0, .int .i64 0] 31)
                  have HG4 := hide hS.2.size
                  generalize W0.alloc (.cells #[.int .i64 0, .int .i64 0, .int .i64 0, .int .i64 0, .int .i64 0] 31) = X23 at *
                  refine any_two 1 5 (by kernel_rfl) rfl rfl (by rfl) (by rfl) (fun K' hK => ?_) (fun K' hK => ?_)
                  · skip
                    go_simp
                    refine (HSD.out _ hS23.2).mono ?_
                    rintro x w124 ⟨rfl, hb124⟩
                    go_simp
                    refine hK.out _ _ (TwoS.step hb124 hS23) (fun hS24 => ?_)
                    clear hK K'
                    try simp only [Act.put, List.setIfInBounds_toArray, List.set_cons_zero, List.set_cons_succ]
                    have HZ4 := hide (kl_blk hb124 HZ4.out)
                    clear hb124
                    refine any_two 3 5 (by kernel_rfl) rfl rfl (by rfl) (by rfl) (fun K' hK => ?_) (fun K' hK => ?_)
                    · skip
                      go_simp
                      refine (HSF.out _ hS24.2).mono ?_
                      rintro x w125 ⟨rfl, hb125⟩
                      go_simp
                      refine hK.out _ _ (TwoS.step hb125 hS24) (fun hS25 => ?_)
                      clear hK K'
                      try simp only [Act.put, List.setIfInBounds_toArray, List.set_cons_zero, List.set_cons_succ]
                      have HZ4 := hide (kl_blk hb125 HZ4.out)
                      clear hb125
                      refine any_one 5 (by kernel_rfl) rfl (by rfl) (fun K' hK => ?_)
                      go_simp
                      refine hK.out _ _ (TwoS.step (kl_alloc w125 _) hS25) (fun hS26 => ?_)
                      clear hK K'
                      try simp only [Act.put, List.setIfInBounds_toArray, List.set_cons_zero, List.set_cons_succ]
                      have HN4 := hide (Nat.ne_of_lt HZ4.out.lt)
                      have HZ4 := hide (kl_blk (kl_alloc w125 (.cells #[.int .i64 0, .int .i64 0, .int .i64 0, .int .i64 0, .int .i64 0] 31)) HZ4.out)
                      have HZ5 := hide (Blk.new w125 #[.int .i64 0, .int .i64 0, .int .i64 0, .int .i64 0, .int .i64 0] 31)
                      have HG5 := hide hS25.2.size
                      generalize w125.alloc (.cells #[.int .i64 0, .int .i64 0, .int .i64 0, .int .i64 0, .int .i64 0] 31) = X26 at *
                      refine any_one 6 (by kernel_rfl) rfl (by rfl) (fun K' hK => ?_)
                      refine wp_store_mid 31 _ _ rfl W0.heap.size 0 #[.int .i64 5, .int .i64 2, .int .i64 2, .int .i64 ll, .int .i64 0] rfl rfl HZ4.out.there (by kernel_rfl) (by simp [Value.oneCell']) ?_
                      refine hK.out _ _ (TwoS.over hS26 (Nat.ne_of_lt (Nat.lt_of_lt_of_le HDl.out HG4.out)) (Nat.ne_of_lt (Nat.lt_of_lt_of_le HFl.out HG4.out)) HG4.out _) (fun hT27 => ?_)
                      clear hK K'
                      try simp only [Act.put, List.setIfInBounds_toArray, List.set_cons_zero, List.set_cons_succ]
                      have HZ4 := hide (blk_over5 HZ4.out (.int .i64 5) (.int .i64 2) (.int .i64 2) (.int .i64 ll) (.int .i64 0))
                      have HZ5 := hide (HZ5.out.overOther (Ne.symm HN4.out) (.int .i64 5) (.int .i64 2) (.int .i64 2) (.int .i64 ll) (.int .i64 0))
                      refine any_one 7 (by kernel_rfl) rfl (by rfl) (fun K' hK => ?_)
                      refine wp_store_mid 31 _ _ rfl w125.heap.size 0 #[.int .i64 6, .int .i64 1, .int .i64 1, .int .i64 sz, .int .i64 pc] rfl rfl HZ5.out.there (by kernel_rfl) (by simp [Value.oneCell']) ?_
                      refine hK.out _ _ (TwoS.over hT27 (Nat.ne_of_lt (Nat.lt_of_lt_of_le HDl.out HG5.out)) (Nat.ne_of_lt (Nat.lt_of_lt_of_le HFl.out HG5.out)) HG5.out _) (fun hU27 => ?_)
                      clear hK K'
                      refine wpAnyH_done (by kernel_rfl) ?_ _
                      go_wp2
                      go_meet
                      exact ⟨_, _, rfl, rfl, HZ4.out.overOther HN4.out _ _ _ _ _, blk_over5 HZ5.out _ _ _ _ _, hU27.2⟩
                    · skip
                      go_simp
                      refine hK.out _ _ (TwoS.step (kl_alloc w124 _) hS24) (fun hS28 => ?_)
                      clear hK K'
                      try simp only [Act.put, List.setIfInBounds_toArray, List.set_cons_zero, List.set_cons_succ]
                      have HN4 := hide (Nat.ne_of_lt HZ4.out.lt)
                      have HZ4 := hide (kl_blk (kl_alloc w124 (.cells #[.int .i64 0, .int .i64 0, .int .i64 0, .int .i64 0, .int .i64 0] 31)) HZ4.out)
                      have HZ5 := hide (Blk.new w124 #[.int .i64 0, .int .i64 0, .int .i64 0, .int .i64 0, .int .i64 0] 31)
                      have HG5 := hide hS24.2.size
                      generalize w124.alloc (.cells #[.int .i64 0, .int .i64 0, .int .i64 0, .int .i64 0, .int .i64 0] 31) = X28 at *
                      refine any_one 3 (by kernel_rfl) rfl (by rfl) (fun K' hK => ?_)
                      go_simp
                      refine (HSF.out _ hS28.2).mono ?_
                      rintro x w129 ⟨rfl, hb129⟩
                      go_simp
                      refine hK.out _ _ (TwoS.step hb129 hS28) (fun hS29 => ?_)
                      clear hK K'
                      try simp only [Act.put, List.setIfInBounds_toArray, List.set_cons_zero, List.set_cons_succ]
                      have HZ4 := hide (kl_blk hb129 HZ4.out)
                      have HZ5 := hide (kl_blk hb129 HZ5.out)
                      clear hb129
                      refine any_one 6 (by kernel_rfl) rfl (by rfl) (fun K' hK => ?_)
                      refine wp_store_mid 31 _ _ rfl W0.heap.size 0 #[.int .i64 5, .int .i64 2, .int .i64 2, .int .i64 ll, .int .i64 0] rfl rfl HZ4.out.there (by kernel_rfl) (by simp [Value.oneCell']) ?_
                      refine hK.out _ _ (TwoS.over hS29 (Nat.ne_of_lt (Nat.lt_of_lt_of_le HDl.out HG4.out)) (Nat.ne_of_lt (Nat.lt_of_lt_of_le HFl.out HG4.out)) HG4.out _) (fun hT30 => ?_)
                      clear hK K'
                      try simp only [Act.put, List.setIfInBounds_toArray, List.set_cons_zero, List.set_cons_succ]
                      have HZ4 := hide (blk_over5 HZ4.out (.int .i64 5) (.int .i64 2) (.int .i64 2) (.int .i64 ll) (.int .i64 0))
                      have HZ5 := hide (HZ5.out.overOther (Ne.symm HN4.out) (.int .i64 5) (.int .i64 2) (.int .i64 2) (.int .i64 ll) (.int .i64 0))
                      refine any_one 7 (by kernel_rfl) rfl (by rfl) (fun K' hK => ?_)
                      refine wp_store_mid 31 _ _ rfl w124.heap.size 0 #[.int .i64 6, .int .i64 1, .int .i64 1, .int .i64 sz, .int .i64 pc] rfl rfl HZ5.out.there (by kernel_rfl) (by simp [Value.oneCell']) ?_
                      refine hK.out _ _ (TwoS.over hT30 (Nat.ne_of_lt (Nat.lt_of_lt_of_le HDl.out HG5.out)) (Nat.ne_of_lt (Nat.lt_of_lt_of_le HFl.out HG5.out)) HG5.out _) (fun hU30 => ?_)
                      clear hK K'
                      refine wpAnyH_done (by kernel_rfl) ?_ _
                      go_wp2
                      go_meet
                      exact ⟨_, _, rfl, rfl, HZ4.out.overOther HN4.out _ _ _ _ _, blk_over5 HZ5.out _ _ _ _ _, hU30.2⟩
                  · skip
                    go_simp
                    refine hK.out _ _ (TwoS.step (kl_alloc X23 _) hS23) (fun hS31 => ?_)
                    clear hK K'
                    try simp only [Act.put, List.setIfInBounds_toArray, List.set_cons_zero, List.set_cons_succ]
                    have HN4 := hide (Nat.ne_of_lt HZ4.out.lt)
                    have HZ4 := hide (kl_blk (kl_alloc X23 (.cells #[.int .i64 0, .int .i64 0, .int .i64 0, .int .i64 0, .int .i64 0] 31)) HZ4.out)
                    have HZ5 := hide (Blk.new X23 #[.int .i64 0, .int .i64 0, .int .i64 0, .int .i64 0, .int .i64 0] 31)
                    have HG5 := hide hS23.2.size
                    generalize X23.alloc (.cells #[.int .i64 0, .int .i64 0, .int .i64 0, .int .i64 0, .int .i64 0] 31) = X31 at *
                    refine any_one 1 (by kernel_rfl) rfl (by rfl) (fun K' hK => ?_)
                    go_simp
                    refine (HSD.out _ hS31.2).mono ?_
                    rintro x w132 ⟨rfl, hb132⟩
                    go_simp
                    refine hK.out _ _ (TwoS.step hb132 hS31) (fun hS32 => ?_)
                    clear hK K'
                    try simp only [Act.put, List.setIfInBounds_toArray, List.set_cons_zero, List.set_cons_succ]
                    have HZ4 := hide (kl_blk hb132 HZ4.out)
                    have HZ5 := hide (kl_blk hb132 HZ5.out)
                    clear hb132
                    refine any_one 3 (by kernel_rfl) rfl (by rfl) (fun K' hK => ?_)
                    go_simp
                    refine (HSF.out _ hS32.2).mono ?_
                    rintro x w133 ⟨rfl, hb133⟩
                    go_simp
                    refine hK.out _ _ (TwoS.step hb133 hS32) (fun hS33 => ?_)
                    clear hK K'
                    try simp only [Act.put, List.setIfInBounds_toArray, List.set_cons_zero, List.set_cons_succ]
                    have HZ4 := hide (kl_blk hb133 HZ4.out)
                    have HZ5 := hide (kl_blk hb133 HZ5.out)
                    clear hb133
                    refine any_one 6 (by kernel_rfl) rfl (by rfl) (fun K' hK => ?_)
                    refine wp_store_mid 31 _ _ rfl W0.heap.size 0 #[.int .i64 5, .int .i64 2, .int .i64 2, .int .i64 ll, .int .i64 0] rfl rfl HZ4.out.there (by kernel_rfl) (by simp [Value.oneCell']) ?_
                    refine hK.out _ _ (TwoS.over hS33 (Nat.ne_of_lt (Nat.lt_of_lt_of_le HDl.out HG4.out)) (Nat.ne_of_lt (Nat.lt_of_lt_of_le HFl.out HG4.out)) HG4.out _) (fun hT34 => ?_)
                    clear hK K'
                    try simp only [Act.put, List.setIfInBounds_toArray, List.set_cons_zero, List.set_cons_succ]
                    have HZ4 := hide (blk_over5 HZ4.out (.int .i64 5) (.int .i64 2) (.int .i64 2) (.int .i64 ll) (.int .i64 0))
                    have HZ5 := hide (HZ5.out.overOther (Ne.symm HN4.out) (.int .i64 5) (.int .i64 2) (.int .i64 2) (.int .i64 ll) (.int .i64 0))
                    refine any_one 7 (by kernel_rfl) rfl (by rfl) (fun K' hK => ?_)
                    refine wp_store_mid 31 _ _ rfl X23.heap.size 0 #[.int .i64 6, .int .i64 1, .int .i64 1, .int .i64 sz, .int .i64 pc] rfl rfl HZ5.out.there (by kernel_rfl) (by simp [Value.oneCell']) ?_
                    refine hK.out _ _ (TwoS.over hT34 (Nat.ne_of_lt (Nat.lt_of_lt_of_le HDl.out HG5.out)) (Nat.ne_of_lt (Nat.lt_of_lt_of_le HFl.out HG5.out)) HG5.out _) (fun hU34 => ?_)
                    clear hK K'
                    refine wpAnyH_done (by kernel_rfl) ?_ _
                    go_wp2
                    go_meet
                    exact ⟨_, _, rfl, rfl, HZ4.out.overOther HN4.out _ _ _ _ _, blk_over5 HZ5.out _ _ _ _ _, hU34.2⟩
                · skip
                  go_simp
                  refine hK.out _ _ (TwoS.step (kl_alloc W0 _) hS) (fun hS35 => ?_)
                  clear hK K'
                  try simp only [Act.put, List.setIfInBounds_toArray, List.set_cons_zero, List.set_cons_succ]
                  have HZ5 := hide (Blk.new W0 #[.int .i64 0, .int .i64 0, .int .i64 0, .int .i64 0, .int .i64 0] 31)
                  have HG5 := hide hS.2.size
                  generalize W0.alloc (.cells #[.int .i64 0, .int .i64 0, .int .i64 0, .int .i64 0, .int .i64 0] 31) = X35 at *
                  refine any_two 1 4 (by kernel_rfl) rfl rfl (by rfl) (by rfl) (fun K' hK => ?_) (fun K' hK => ?_)
                  · skip
                    go_simp
                    refine (HSD.out _ hS35.2).mono ?_
                    rintro x w136 ⟨rfl, hb136⟩
                    go_simp
                    refine hK.out _ _ (TwoS.step hb136 hS35) (fun hS36 => ?_)
                    clear hK K'
                    try simp only [Act.put, List.setIfInBounds_toArray, List.set_cons_zero, List.set_cons_succ]
                    have HZ5 := hide (kl_blk hb136 HZ5.out)
                    clear hb136
                    refine any_two 3 4 (by kernel_rfl) rfl rfl (by rfl) (by rfl) (fun K' hK => ?_) (fun K' hK => ?_)
                    · skip
                      go_simp
                      refine (HSF.out _ hS36.2).mono ?_
                      rintro x w137 ⟨rfl, hb137⟩
                      go_simp
                      refine hK.out _ _ (TwoS.step hb137 hS36) (fun hS37 => ?_)
                      clear hK K'
                      try simp only [Act.put, List.setIfInBounds_toArray, List.set_cons_zero, List.set_cons_succ]
                      have HZ5 := hide (kl_blk hb137 HZ5.out)
                      clear hb137
                      refine any_one 4 (by kernel_rfl) rfl (by rfl) (fun K' hK => ?_)
                      go_simp
                      refine hK.out _ _ (TwoS.step (kl_alloc w137 _) hS37) (fun hS38 => ?_)
                      clear hK K'
                      try simp only [Act.put, List.setIfInBounds_toArray, List.set_cons_zero, List.set_cons_succ]
                      have HN5 := hide (Nat.ne_of_lt HZ5.out.lt)
                      have HZ5 := hide (kl_blk (kl_alloc w137 (.cells #[.int .i64 0, .int .i64 0, .int .i64 0, .int .i64 0, .int .i64 0] 31)) HZ5.out)
                      have HZ4 := hide (Blk.new w137 #[.int .i64 0, .int .i64 0, .int .i64 0, .int .i64 0, .int .i64 0] 31)
                      have HG4 := hide hS37.2.size
                      generalize w137.alloc (.cells #[.int .i64 0, .int .i64 0, .int .i64 0, .int .i64 0, .int .i64 0] 31) = X38 at *
                      refine any_one 6 (by kernel_rfl) rfl (by rfl) (fun K' hK => ?_)
                      refine wp_store_mid 31 _ _ rfl w137.heap.size 0 #[.int .i64 5, .int .i64 2, .int .i64 2, .int .i64 ll, .int .i64 0] rfl rfl HZ4.out.there (by kernel_rfl) (by simp [Value.oneCell']) ?_
                      refine hK.out _ _ (TwoS.over hS38 (Nat.ne_of_lt (Nat.lt_of_lt_of_le HDl.out HG4.out)) (Nat.ne_of_lt (Nat.lt_of_lt_of_le HFl.out HG4.out)) HG4.out _) (fun hT39 => ?_)
                      clear hK K'
                      try simp only [Act.put, List.setIfInBounds_toArray, List.set_cons_zero, List.set_cons_succ]
                      have HZ4 := hide (blk_over5 HZ4.out (.int .i64 5) (.int .i64 2) (.int .i64 2) (.int .i64 ll) (.int .i64 0))
                      have HZ5 := hide (HZ5.out.overOther HN5.out (.int .i64 5) (.int .i64 2) (.int .i64 2) (.int .i64 ll) (.int .i64 0))
                      refine any_one 7 (by kernel_rfl) rfl (by rfl) (fun K' hK => ?_)
                      refine wp_store_mid 31 _ _ rfl W0.heap.size 0 #[.int .i64 6, .int .i64 1, .int .i64 1, .int .i64 sz, .int .i64 pc] rfl rfl HZ5.out.there (by kernel_rfl) (by simp [Value.oneCell']) ?_
                      refine hK.out _ _ (TwoS.over hT39 (Nat.ne_of_lt (Nat.lt_of_lt_of_le HDl.out HG5.out)) (Nat.ne_of_lt (Nat.lt_of_lt_of_le HFl.out HG5.out)) HG5.out _) (fun hU39 => ?_)
                      clear hK K'
                      refine wpAnyH_done (by kernel_rfl) ?_ _
                      go_wp2
                      go_meet
                      exact ⟨_, _, rfl, rfl, HZ4.out.overOther (Ne.symm HN5.out) _ _ _ _ _, blk_over5 HZ5.out _ _ _ _ _, hU39.2⟩
                    · skip
                      go_simp
                      refine hK.out _ _ (TwoS.step (kl_alloc w136 _) hS36) (fun hS40 => ?_)
                      clear hK K'
                      try simp only [Act.put, List.setIfInBounds_toArray, List.set_cons_zero, List.set_cons_succ]
                      have HN5 := hide (Nat.ne_of_lt HZ5.out.lt)
                      have HZ5 := hide (kl_blk (kl_alloc w136 (.cells #[.int .i64 0, .int .i64 0, .int .i64 0, .int .i64 0, .int .i64 0] 31)) HZ5.out)
                      have HZ4 := hide (Blk.new w136 #[.int .i64 0, .int .i64 0, .int .i64 0, .int .i64 0, .int .i64 0] 31)
                      have HG4 := hide hS36.2.size
                      generalize w136.alloc (.cells #[.int .i64 0, .int .i64 0, .int .i64 0, .int .i64 0, .int .i64 0] 31) = X40 at *
                      refine any_one 3 (by kernel_rfl) rfl (by rfl) (fun K' hK => ?_)
                      go_simp
                      refine (HSF.out _ hS40.2).mono ?_
                      rintro x w141 ⟨rfl, hb141⟩
                      go_simp
                      refine hK.out _ _ (TwoS.step hb141 hS40) (fun hS41 => ?_)
                      clear hK K'
                      try simp only [Act.put, List.setIfInBounds_toArray, List.set_cons_zero, List.set_cons_succ]
                      have HZ5 := hide (kl_blk hb141 HZ5.out)
                      have HZ4 := hide (kl_blk hb141 HZ4.out)
                      clear hb141
                      refine any_one 6 (by kernel_rfl) rfl (by rfl) (fun K' hK => ?_)
                      refine wp_store_mid 31 _ _ rfl w136.heap.size 0 #[.int .i64 5, .int .i64 2, .int .i64 2, .int .i64 ll, .int .i64 0] rfl rfl HZ4.out.there (by kernel_rfl) (by simp [Value.oneCell']) ?_
                      refine hK.out _ _ (TwoS.over hS41 (Nat.ne_of_lt (Nat.lt_of_lt_of_le HDl.out HG4.out)) (Nat.ne_of_lt (Nat.lt_of_lt_of_le HFl.out HG4.out)) HG4.out _) (fun hT42 => ?_)
                      clear hK K'
                      try simp only [Act.put, List.setIfInBounds_toArray, List.set_cons_zero, List.set_cons_succ]
                      have HZ4 := hide (blk_over5 HZ4.out (.int .i64 5) (.int .i64 2) (.int .i64 2) (.int .i64 ll) (.int .i64 0))
                      have HZ5 := hide (HZ5.out.overOther HN5.out (.int .i64 5) (.int .i64 2) (.int .i64 2) (.int .i64 ll) (.int .i64 0))
                      refine any_one 7 (by kernel_rfl) rfl (by rfl) (fun K' hK => ?_)
                      refine wp_store_mid 31 _ _ rfl W0.heap.size 0 #[.int .i64 6, .int .i64 1, .int .i64 1, .int .i64 sz, .int .i64 pc] rfl rfl HZ5.out.there (by kernel_rfl) (by simp [Value.oneCell']) ?_
                      refine hK.out _ _ (TwoS.over hT42 (Nat.ne_of_lt (Nat.lt_of_lt_of_le HDl.out HG5.out)) (Nat.ne_of_lt (Nat.lt_of_lt_of_le HFl.out HG5.out)) HG5.out _) (fun hU42 => ?_)
                      clear hK K'
                      refine wpAnyH_done (by kernel_rfl) ?_ _
                      go_wp2
                      go_meet
                      exact ⟨_, _, rfl, rfl, HZ4.out.overOther (Ne.symm HN5.out) _ _ _ _ _, blk_over5 HZ5.out _ _ _ _ _, hU42.2⟩
                  · skip
                    go_simp
                    refine hK.out _ _ (TwoS.step (kl_alloc X35 _) hS35) (fun hS43 => ?_)
                    clear hK K'
                    try simp only [Act.put, List.setIfInBounds_toArray, List.set_cons_zero, List.set_cons_succ]
                    have HN5 := hide (Nat.ne_of_lt HZ5.out.lt)
                    have HZ5 := hide (kl_blk (kl_alloc X35 (.cells #[.int .i64 0, .int .i64 0, .int .i64 0, .int .i64 0, .int .i64 0] 31)) HZ5.out)
                    have HZ4 := hide (Blk.new X35 #[.int .i64 0, .int .i64 0, .int .i64 0, .int .i64 0, .int .i64 0] 31)
                    have HG4 := hide hS35.2.size
                    generalize X35.alloc (.cells #[.int .i64 0, .int .i64 0, .int .i64 0, .int .i64 0, .int .i64 0] 31) = X43 at *
                    refine any_one 1 (by kernel_rfl) rfl (by rfl) (fun K' hK => ?_)
                    go_simp
                    refine (HSD.out _ hS43.2).mono ?_
                    rintro x w144 ⟨rfl, hb144⟩
                    go_simp
                    refine hK.out _ _ (TwoS.step hb144 hS43) (fun hS44 => ?_)
                    clear hK K'
                    try simp only [Act.put, List.setIfInBounds_toArray, List.set_cons_zero, List.set_cons_succ]
                    have HZ5 := hide (kl_blk hb144 HZ5.out)
                    have HZ4 := hide (kl_blk hb144 HZ4.out)
                    clear hb144
                    refine any_one 3 (by kernel_rfl) rfl (by rfl) (fun K' hK => ?_)
                    go_simp
                    refine (HSF.out _ hS44.2).mono ?_
                    rintro x w145 ⟨rfl, hb145⟩
                    go_simp
                    refine hK.out _ _ (TwoS.step hb145 hS44) (fun hS45 => ?_)
                    clear hK K'
                    try simp only [Act.put, List.setIfInBounds_toArray, List.set_cons_zero, List.set_cons_succ]
                    have HZ5 := hide (kl_blk hb145 HZ5.out)
                    have HZ4 := hide (kl_blk hb145 HZ4.out)
                    clear hb145
                    refine any_one 6 (by kernel_rfl) rfl (by rfl) (fun K' hK => ?_)
                    refine wp_store_mid 31 _ _ rfl X35.heap.size 0 #[.int .i64 5, .int .i64 2, .int .i64 2, .int .i64 ll, .int .i64 0] rfl rfl HZ4.out.there (by kernel_rfl) (by simp [Value.oneCell']) ?_
                    refine hK.out _ _ (TwoS.over hS45 (Nat.ne_of_lt (Nat.lt_of_lt_of_le HDl.out HG4.out)) (Nat.ne_of_lt (Nat.lt_of_lt_of_le HFl.out HG4.out)) HG4.out _) (fun hT46 => ?_)
                    clear hK K'
                    try simp only [Act.put, List.setIfInBounds_toArray, List.set_cons_zero, List.set_cons_succ]
                    have HZ4 := hide (blk_over5 HZ4.out (.int .i64 5) (.int .i64 2) (.int .i64 2) (.int .i64 ll) (.int .i64 0))
                    have HZ5 := hide (HZ5.out.overOther HN5.out (.int .i64 5) (.int .i64 2) (.int .i64 2) (.int .i64 ll) (.int .i64 0))
                    refine any_one 7 (by kernel_rfl) rfl (by rfl) (fun K' hK => ?_)
                    refine wp_store_mid 31 _ _ rfl W0.heap.size 0 #[.int .i64 6, .int .i64 1, .int .i64 1, .int .i64 sz, .int .i64 pc] rfl rfl HZ5.out.there (by kernel_rfl) (by simp [Value.oneCell']) ?_
                    refine hK.out _ _ (TwoS.over hT46 (Nat.ne_of_lt (Nat.lt_of_lt_of_le HDl.out HG5.out)) (Nat.ne_of_lt (Nat.lt_of_lt_of_le HFl.out HG5.out)) HG5.out _) (fun hU46 => ?_)
                    clear hK K'
                    refine wpAnyH_done (by kernel_rfl) ?_ _
                    go_wp2
                    go_meet
                    exact ⟨_, _, rfl, rfl, HZ4.out.overOther (Ne.symm HN5.out) _ _ _ _ _, blk_over5 HZ5.out _ _ _ _ _, hU46.2⟩
              case rest =>
                obtain ⟨g, h, rfl, rfl, hG, hH, hb⟩ := hcut
                have HPC2 := hide (HPR.out.step hb)
                have hle := HPR.out.e.row.lenRun
                have hlem := rightE_len HPR.out.le
                have hrd := rightD_ok HPR.out.le
                have hrf := rightF_ok HPR.out.lr (sz := (sz : Int)) (by omega) (by have := HSZ.out; omega)
                have HRD := hide (fun (w8 : World) (hb : Below wc.heap.size wc w8) => RightI_any w8 5 2 2 0 ⟨#[]⟩ ev (.slice none 0 0) L [] (by decide) (by unfold maxLen; decide) (HPC2.out.e.kept hb).row (RRow.nil w8))
                have HRF := hide (fun (w8 : World) (hb : Below wc.heap.size wc w8) => RightI_any w8 6 1 1 sz ⟨#[]⟩ (.slice none 0 0) rv [] R (by decide) (by unfold maxLen; decide) (ERow.nil w8) (HPC2.out.r.kept hb).row)
                rw [hrd] at HRD
                rw [hrf] at HRF
                have HPG := hide (fun (w8 : World) (hb : Below wc.heap.size wc w8) => RPages_any w8 rv R (HPC2.out.r.kept hb).row)
                obtain rfl := HLL.out
                obtain rfl := HPC.out
                have HS := hide (show FourS wc D F g h ev rv sz (L.length : Int) ((pagesL R).length : Int) wc from ⟨⟨HPC2.out.two.1, five hG, five hH⟩, Below.refl _ _⟩)
                generalize L.length = lq at *
                skip
                clear HPR HN HP HNN HPP hn1 hn2 hp1 hp2 HW1 HSZ HFD hDD hDF hG hH hb hrd hrf HSD HSF HTS HDl HFl
                go_wp2_with fail
                go_region_held3 (fun w' => ((w'.cell? ⟨D, 0, none⟩ = some (.int .i64 5) ∧ w'.cell? ⟨D, 1, none⟩ = some (.int .i64 2) ∧ w'.cell? ⟨D, 2, none⟩ = some (.int .i64 2) ∧ w'.cell? ⟨D, 3, none⟩ = some (.int .i64 0) ∧ w'.cell? ⟨D, 4, none⟩ = some (.string ⟨#[]⟩) ∧ w'.cell? ⟨D, 5, none⟩ = some ev ∧ w'.cell? ⟨D, 6, none⟩ = some (.slice none 0 0) ∧ w'.cell? ⟨F, 0, none⟩ = some (.int .i64 6) ∧ w'.cell? ⟨F, 1, none⟩ = some (.int .i64 1) ∧ w'.cell? ⟨F, 2, none⟩ = some (.int .i64 1) ∧ w'.cell? ⟨F, 3, none⟩ = some (.int .i64 sz) ∧ w'.cell? ⟨F, 4, none⟩ = some (.string ⟨#[]⟩) ∧ w'.cell? ⟨F, 5, none⟩ = some (.slice none 0 0) ∧ w'.cell? ⟨F, 6, none⟩ = some rv) ∧ (w'.cell? ⟨g, 0, none⟩ = some (.int .i64 5) ∧ w'.cell? ⟨g, 1, none⟩ = some (.int .i64 2) ∧ w'.cell? ⟨g, 2, none⟩ = some (.int .i64 2) ∧ w'.cell? ⟨g, 3, none⟩ = some (.int .i64 lq) ∧ w'.cell? ⟨g, 4, none⟩ = some (.int .i64 0)) ∧ (w'.cell? ⟨h, 0, none⟩ = some (.int .i64 6) ∧ w'.cell? ⟨h, 1, none⟩ = some (.int .i64 1) ∧ w'.cell? ⟨h, 2, none⟩ = some (.int .i64 1) ∧ w'.cell? ⟨h, 3, none⟩ = some (.int .i64 sz) ∧ w'.cell? ⟨h, 4, none⟩ = some (.int .i64 (pagesL R).length))) ∧ Below wc.heap.size wc w')
                  (first
                    | assumption
                    | exact FourS.step (kl_drew _) HS.out
                    | exact FourS.step hb9 (show FourS wc D F g h ev rv sz (lq : Int) ((pagesL R).length : Int) _ by assumption)
                    | fail)
                  (first
                    | (go_at_call 7; refine (awake_any _).mono ?_; rintro x w9 ⟨rfl, hb9⟩)
                    | (go_at_call 11; have hd8 := hd9; refine (HRF.out _ (And.right (show FourS wc D F g h ev rv sz (lq : Int) ((pagesL R).length : Int) _ by assumption))).mono ?_; rintro x w9 ⟨rfl, hb9⟩)
                    | (go_at_call 11; refine (HRD.out _ (And.right (show FourS wc D F g h ev rv sz (lq : Int) ((pagesL R).length : Int) _ by assumption))).mono ?_; rintro x w9 ⟨rfl, hb9⟩; have hd9 := True.intro)
                    | (go_at_call 18; refine (HPG.out _ (And.right (show FourS wc D F g h ev rv sz (lq : Int) ((pagesL R).length : Int) _ by assumption))).mono ?_; rintro x w9 ⟨u, rfl, hou, hb9⟩; have hul := hou.row.lenI; clear hou)
                    | fail)
                have hX : FourS wc D F g h ev rv sz (lq : Int) ((pagesL R).length : Int) w9 := by assumption
                have HX := hide (kl_step hX.2 HPC2.out.b)
                clear hX hb9
                go_wp2
                go_ret
                exact ⟨rfl, HX.out⟩
end Go.Proofs.Ytlfodhffecadoaa
