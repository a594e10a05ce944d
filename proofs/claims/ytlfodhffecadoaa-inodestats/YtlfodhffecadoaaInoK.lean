/-
  The document's PagesOf, StatOf.
-/
import Derived.Deep.RegionWith
import Derived.Deep.RegionHeld3
import Derived.Deep.MidRow
import Derived.Lib.SlBuf
import Derived.Deep.CutBlock
import Derived.Deep.DeepCutAuto
import Derived.Test.YtlfodhffecadoaaInoJ
import Derived.Test.YtlfodhffecadoaaInoG
import Derived.Test.YtlfodhffecadoaaAnyH
namespace Go.Proofs.Ytlfodhffecadoaa
open Go.RowKit
set_option linter.unusedVariables false
set_option maxRecDepth 100000

theorem pl_neg {o : Option Int} (h : o = none) : plOf o = -1 := by rw [h]; rfl
theorem pl_pos {o : Option Int} {a : Int} (h : o = some a) : plOf o = a := by rw [h]; rfl
theorem out_none {f : Nat → Option Int} {k : Nat} (h : f k = none) : outS f (k + 1) = outS f k := by simp [outS, h]
theorem out_some {f : Nat → Option Int} {k : Nat} {a : Int} (h : f k = some a) : outS f (k + 1) = outS f k ++ [a] := by simp [outS, h]
theorem out_le (f : Nat → Option Int) (k : Nat) : (outS f k).length ≤ k := by
  induction k with
  | zero => simp [outS]
  | succ k ih =>
    cases h : f k with
    | none => rw [out_none h]; omega
    | some a => rw [out_some h]; simp; omega
def pagesL (l : List Rn) : List Int := if rightS l then outS (tabS l) 64 else []
theorem pagesL_len (l : List Rn) : ((pagesL l).length : Int) = if rightS l then cntS l else 0 := by
  unfold pagesL
  cases h : rightS l with
  | true => simp only [if_true]; rw [out_len]; exact cnt_64 h
  | false => rfl

set_option maxHeartbeats 4000000 in
theorem RPages_any (w : World) (v : Value) (l : List Rn) (h : RRow w v l) :
    Calls Try.prog 18 #[v] w fun e w' => ∃ u, e = .returned u ∧ IOwn .i64 3 w.heap.size w' u (pagesL l) ∧ Below w.heap.size w w' := by
  have HRW := hide h
  clear h
  go_enter Try.func18, Try.ntmps18
  go_wp2_with fail
  refine (RRightR_any w v l HRW.out).mono ?_
  rintro e w1 ⟨rfl, hb1⟩
  cases hr : rightS l with
  | false =>
    have HP := hide (show pagesL l = [] by unfold pagesL; rw [hr]; rfl)
    go_wp2
    go_ret
    exact ⟨_, rfl, by rw [HP.out]; exact IOwn.nil _ _ _ _, hb1⟩
  | true =>
    have HP := hide (show pagesL l = outS (tabS l) 64 by unfold pagesL; rw [hr]; rfl)
    have HRT := hide hr
    have HB1 := hide hb1
    clear hr hb1
    go_wp2_with fail
    refine (RPlaces_any w1 v l (HRW.out.below HB1.out) HRT.out).mono ?_
    rintro e w2 ⟨g, xs, rfl, hg, ho, hf, hb2⟩
    have HB2 := hide (kl_step hb2 HB1.out)
    have HXR := hide ho.row
    have HF := hide hf
    have hsz2 : w.heap.size ≤ w2.heap.size := HB2.out.size
    have hgl := ho.lt.2
    have hlr : ∀ (w' : World) (ty : TypeId), (Builtin.len_ #[43] ty #[.slice (some ⟨g, 0, none⟩) 64 64]).run Try.prog w' = .ok (.int .i64 64) w' := fun w' ty => by
      have := HXR.out.lenI w' ty
      rw [HF.out.1] at this
      exact this
    obtain ⟨S, hS⟩ : ∃ S : Value, S = .slice (some ⟨g, 0, none⟩) 64 64 := ⟨_, rfl⟩
    rw [← hS] at hlr HXR ⊢
    clear hS ho hf hb2 hg hgl
    go_wp2_with fail
    go_loopw [3, 5] (fun s i wr => ∃ k : Nat, k ≤ 64 ∧ i = .int .i64 k ∧ Hid (IOwn .i64 3 w2.heap.size wr s (outS (tabS l) k)) ∧ Hid (Below w2.heap.size w2 wr)) (fun _ i _ => 64 - (intOf i).toNat)
    case atStart => exact ⟨0, Nat.zero_le _, rfl, hide (IOwn.nil _ _ _ _), hide (Below.refl _ _)⟩
    case round =>
      obtain ⟨k, hk, rfl, HOX, HBX⟩ := hrel
      by_cases hlt : k < 64
      · have hlt' : (k : Int) < 64 := by omega
        obtain ⟨b, o, hbs, hix, c0⟩ := (HXR.out.below HBX.out).idxI k (by rw [HF.out.1]; exact hlt)
        rw [HF.out.2 k hlt] at c0
        have hwf := tab_wf HRT.out k
        cases ho : tabS l k with
        | none =>
          rw [pl_neg ho] at c0
          have HO1 := hide (show IOwn .i64 3 w2.heap.size wr u3 (outS (tabS l) (k + 1)) by rw [out_none ho]; exact HOX.out)
          clear hwf hbs ho HOX
          go_wp2
          exact ⟨⟨k + 1, by omega, by go_num, HO1, HBX⟩, by simp [intOf]; omega⟩
        | some a =>
          rw [pl_pos ho] at c0
          rw [ho] at hwf
          simp only [Option.getD_some] at hwf
          have ha := get_range HRT.out ho
          have ha0 : 0 ≤ a := ha.2.2.1
          have hbW : b < wr.heap.size := hbs
          have hol := out_le (tabS l) k
          have HOS := hide (out_some ho)
          have hsz := HBX.out.size
          have HB3 := hide (HBX.out.alloc hsz (.cells #[.int .i64 a] 3))
          clear ho ha hbs
          go_wp2_with (at_builtin; refine wpList_append_ints rfl _ _ 43 3 .i64 8 Try.underlying43 infoInt9 rfl w2.heap.size u3 _ (outS (tabS l) k) [a] rfl (HOX.out.alloc _) rfl (irow_one _ _ hwf _) (by simp; omega) (by unfold maxLen; simp; omega) (by simp; omega) ?_)
          intro v3 w3 hv3 hg3
          have HB4 := hide ((HOX.out.alloc (.cells #[.int .i64 a] 3)).grown_bel HB3.out hg3 (Nat.le_refl _) HB3.out.size)
          have HV := hide hv3
          rw [← HOS.out] at HV
          clear hv3 hg3 HB3 HOX HBX c0 hix
          go_wp2
          exact ⟨⟨k + 1, by omega, by go_num, HV, HB4⟩, by simp [intOf]; omega⟩
      · obtain rfl : k = 64 := by omega
        go_wp2
        go_ret
        exact ⟨_, rfl, by rw [HP.out]; exact HOX.out.mono hsz2, kl_step HBX.out HB2.out⟩
/-- What the region of StatOf keeps. -/
def StT (w0 : World) (B : Nat) (a b c d : Int) (rv : Value) (w' : World) : Prop :=
  (w'.cell? ⟨B, 0, none⟩ = some (.int .i64 a) ∧ w'.cell? ⟨B, 1, none⟩ = some (.int .i64 b) ∧ w'.cell? ⟨B, 2, none⟩ = some (.int .i64 c) ∧ w'.cell? ⟨B, 3, none⟩ = some (.int .i64 d) ∧ w'.cell? ⟨B, 6, none⟩ = some rv) ∧ Below w0.heap.size w0 w'
theorem StT.step {w0 : World} {B : Nat} {a b c d : Int} {rv : Value} {w w' : World} (hb : Below w.heap.size w w') (h : StT w0 B a b c d rv w) : StT w0 B a b c d rv w' :=
  ⟨⟨kl_cell hb h.1.1, kl_cell hb h.1.2.1, kl_cell hb h.1.2.2.1, kl_cell hb h.1.2.2.2.1, kl_cell hb h.1.2.2.2.2⟩, kl_step hb h.2⟩
theorem StT.over {w0 : World} {B R : Nat} {a b c d : Int} {rv : Value} {w : World} (h : StT w0 B a b c d rv w) (hne : B ≠ R) (hR : w0.heap.size ≤ R) (vs : List Value) : StT w0 B a b c d rv (w.setCells R 0 vs) := by
  refine ⟨⟨?_, ?_, ?_, ?_, ?_⟩, Lib.below_setCells R hR vs 0 h.2⟩
  · rw [World.cell?_setCells_out R vs 0 w ⟨B, 0, none⟩ (fun e => absurd e hne)]; exact h.1.1
  · rw [World.cell?_setCells_out R vs 0 w ⟨B, 1, none⟩ (fun e => absurd e hne)]; exact h.1.2.1
  · rw [World.cell?_setCells_out R vs 0 w ⟨B, 2, none⟩ (fun e => absurd e hne)]; exact h.1.2.2.1
  · rw [World.cell?_setCells_out R vs 0 w ⟨B, 3, none⟩ (fun e => absurd e hne)]; exact h.1.2.2.2.1
  · rw [World.cell?_setCells_out R vs 0 w ⟨B, 6, none⟩ (fun e => absurd e hne)]; exact h.1.2.2.2.2
theorem Blk.overOther {w : World} {b R : Nat} {cs : Array Value} {t : TypeId} (h : Blk w b cs t) (hne : b ≠ R) (v0 v1 v2 v3 v4 : Value) : Blk (w.setCells R 0 [v0, v1, v2, v3, v4]) b cs t := by
  have := ((((h.kept (grown_setCell w R 0 v0) (by simpa using hne)).kept (grown_setCell _ R 1 v1) (by simpa using hne)).kept (grown_setCell _ R 2 v2) (by simpa using hne)).kept (grown_setCell _ R 3 v3) (by simpa using hne)).kept (grown_setCell _ R 4 v4) (by simpa using hne)
  simpa [World.setCells] using this
/-- What the cut gives. -/
def MidT (w : World) (B R : Nat) (no kind links size pg : Int) (bc : Array Value) (g : Nat) (wx : World) : Prop :=
  Blk wx g #[.int .i64 no, .int .i64 kind, .int .i64 links, .int .i64 size, .int .i64 pg] 31 ∧ Blk wx R #[.int .i64 0, .int .i64 0, .int .i64 0, .int .i64 0, .int .i64 0] 31 ∧
    Blk wx B bc 25 ∧ Below w.heap.size w wx ∧ R < g

section
variable {P : Program} {l ri rj : List Oper} {Q : Exit → Act → World → Prop} {md : Region.Mode} {S : World → Prop} {fuel : Nat} {listed : Array Bool} {a : Act} {w : World} {oi oj : Oper}
/-- Two may come up. -/
theorem any_two (i j : Nat) (hr : Region.ready md l.toArray listed = [i, j]) (hdi : l.drop i = oi :: ri) (hdj : l.drop j = oj :: rj) (hwi : Region.wanted oi (yielded l.toArray a.tmps) = true) (hwj : Region.wanted oj (yielded l.toArray a.tmps) = true)
    (hi : ∀ K' : Act → World → Prop, Shut (∀ a w, S w → (S w → wpAnyH P md l.toArray Q S fuel (listed.setIfInBounds i true) a w) → K' a w) → Oper.wp P oi a w K' Q)
    (hj : ∀ K' : Act → World → Prop, Shut (∀ a w, S w → (S w → wpAnyH P md l.toArray Q S fuel (listed.setIfInBounds j true) a w) → K' a w) → Oper.wp P oj a w K' Q) : wpAnyH P md l.toArray Q S (fuel + 1) listed a w :=
  wpAnyH_ready hr (by simp) (AllReadyH.cons (drop_get hdi) (fun K' hK => by rw [if_pos hwi]; exact hi K' hK) (AllReadyH.cons (drop_get hdj) (fun K' hK => by rw [if_pos hwj]; exact hj K' hK) .nil))
end

set_option maxHeartbeats 4000000 in
theorem RStat_any (w : World) (no kind links size : Int) (t : ByteArray) (ev rv : Value) (es : List En) (rs : List Rn) (he : ERow w ev es) (hr : RRow w rv rs) :
    Calls Try.prog 14 #[.agg #[.int .i64 no, .int .i64 kind, .int .i64 links, .int .i64 size, .string t, ev, rv]] w
      (SaysT no kind links (statSize ⟨no, kind, links, size, t, es, rs⟩) (pagesOf ⟨no, kind, links, size, t, es, rs⟩) w) := by
  unfold SaysT
  obtain ⟨w0, hw0⟩ : ∃ W, W = w.alloc (.cells #[.int .i64 no, .int .i64 kind, .int .i64 links, .int .i64 size, .string t, ev, rv] 25) := ⟨_, rfl⟩
  have hb0 : Below w.heap.size w w0 := by rw [hw0]; exact kl_alloc w _
  have hB0 : Blk w0 w.heap.size #[.int .i64 no, .int .i64 kind, .int .i64 links, .int .i64 size, .string t, ev, rv] 25 := by rw [hw0]; exact Blk.new w _ _
  obtain ⟨V, hV⟩ : ∃ W, W = w0.alloc (.cells #[.int .i64 0, .int .i64 0, .int .i64 0, .int .i64 0, .int .i64 0] 31) := ⟨_, rfl⟩
  have hB1 : Below w0.heap.size w0 V := by rw [hV]; exact kl_alloc w0 _
  have hsz : w0.heap.size = w.heap.size + 1 := by rw [hw0]; simp
  have hR : Blk V (w.heap.size + 1) #[.int .i64 0, .int .i64 0, .int .i64 0, .int .i64 0, .int .i64 0] 31 := by rw [hV, ← hsz]; exact Blk.new w0 _ _
  have hBV := kl_blk hB1 hB0
  have hbV := kl_step hB1 hb0
  have hlr := he.lenRun
  have hlm := he.len
  have HRR := hide hr
  have HP : Hid (pagesOf ⟨no, kind, links, size, t, es, rs⟩ = ((pagesL rs).length : Int)) := hide (pagesL_len rs).symm
  have HZ : Hid (statSize ⟨no, kind, links, size, t, es, rs⟩ = if kind = 2 then (es.length : Int) else size) := hide rfl
  have HCN := hide (RPages_any · rv rs)
  generalize pagesOf ⟨no, kind, links, size, t, es, rs⟩ = pg at *
  generalize statSize ⟨no, kind, links, size, t, es, rs⟩ = sz at *
  generalize pagesL rs = ps at *
  generalize es.length = len at *
  have Hw0 := hide hw0
  have HV := hide hV
  have HBV := hide hBV
  have HRV := hide hR
  have HS : Hid (StT w w.heap.size no kind links size rv V) := hide ⟨⟨hBV.cell 0, hBV.cell 1, hBV.cell 2, hBV.cell 3, hBV.cell 6⟩, hbV⟩
  clear hsz hb0 hB0 hw0 hV hB1 hR hBV hbV he hr
  go_enter Try.func14, Try.ntmps14
  go_upto_region 1 with fail
  rw [← Hw0.out, ← HV.out]
  clear Hw0 HV
  generalize hB : w.heap.size = B at *
  have HQ := hide hB
  clear hB
  obtain ⟨R, hR⟩ : ∃ R, R = B + 1 := ⟨_, rfl⟩
  rw [← hR] at HRV ⊢
  have HRB := hide hR
  clear hR
  have HCV := hide (fun (w8 : World) (h : StT w B no kind links size rv w8) => HCN.out w8 (HRR.out.below h.2))
  have HRL := hide HRV.out.lt
  go_cut [3] (fun p wx => ∃ g, p = .pointer (some ⟨g, 0, none⟩) ∧ MidT w B R no kind links size pg #[.int .i64 no, .int .i64 kind, .int .i64 links, .int .i64 size, .string t, ev, rv] g wx)
  case first =>
    refine wp_region_held_drew (S := fun w' => (w'.cell? ⟨B, 0, none⟩ = some (.int .i64 no) ∧ w'.cell? ⟨B, 1, none⟩ = some (.int .i64 kind) ∧ w'.cell? ⟨B, 2, none⟩ = some (.int .i64 links) ∧ w'.cell? ⟨B, 3, none⟩ = some (.int .i64 size) ∧ w'.cell? ⟨B, 6, none⟩ = some rv) ∧ Below w.heap.size w w') (by kernel_rfl) (StT.step (kl_drew _) HS.out) (fun hHeld => ?_)
    refine any_yes 0 (.pointer (some ⟨B, 0, none⟩)) rfl (by kernel_rfl) (by kernel_rfl) (by kernel_rfl) (fun _ _ _ h => h) (by rfl) (by intro w hSw; obtain ⟨⟨g0, g1, g2, g3, g6⟩, g9⟩ := hSw; go_simp) (by assumption) ?_
    try simp only [Act.put, List.setIfInBounds_toArray, List.set_cons_zero, List.set_cons_succ]
    refine any_yes 1 (.int .i64 no) rfl (by kernel_rfl) (by kernel_rfl) (by kernel_rfl) (fun _ _ _ h => h) (by rfl) (by intro w hSw; obtain ⟨⟨g0, g1, g2, g3, g6⟩, g9⟩ := hSw; go_simp) (by assumption) ?_
    try simp only [Act.put, List.setIfInBounds_toArray, List.set_cons_zero, List.set_cons_succ]
    refine any_yes 2 (.pointer (some ⟨B, 1, none⟩)) rfl (by kernel_rfl) (by kernel_rfl) (by kernel_rfl) (fun _ _ _ h => h) (by rfl) (by intro w hSw; obtain ⟨⟨g0, g1, g2, g3, g6⟩, g9⟩ := hSw; go_simp) (by assumption) ?_
    try simp only [Act.put, List.setIfInBounds_toArray, List.set_cons_zero, List.set_cons_succ]
    refine any_yes 3 (.int .i64 kind) rfl (by kernel_rfl) (by kernel_rfl) (by kernel_rfl) (fun _ _ _ h => h) (by rfl) (by intro w hSw; obtain ⟨⟨g0, g1, g2, g3, g6⟩, g9⟩ := hSw; go_simp) (by assumption) ?_
    try simp only [Act.put, List.setIfInBounds_toArray, List.set_cons_zero, List.set_cons_succ]
    refine any_yes 4 (.pointer (some ⟨B, 2, none⟩)) rfl (by kernel_rfl) (by kernel_rfl) (by kernel_rfl) (fun _ _ _ h => h) (by rfl) (by intro w hSw; obtain ⟨⟨g0, g1, g2, g3, g6⟩, g9⟩ := hSw; go_simp) (by assumption) ?_
    try simp only [Act.put, List.setIfInBounds_toArray, List.set_cons_zero, List.set_cons_succ]
    refine any_yes 5 (.int .i64 links) rfl (by kernel_rfl) (by kernel_rfl) (by kernel_rfl) (fun _ _ _ h => h) (by rfl) (by intro w hSw; obtain ⟨⟨g0, g1, g2, g3, g6⟩, g9⟩ := hSw; go_simp) (by assumption) ?_
    try simp only [Act.put, List.setIfInBounds_toArray, List.set_cons_zero, List.set_cons_succ]
    refine any_yes 6 (.pointer (some ⟨B, 3, none⟩)) rfl (by kernel_rfl) (by kernel_rfl) (by kernel_rfl) (fun _ _ _ h => h) (by rfl) (by intro w hSw; obtain ⟨⟨g0, g1, g2, g3, g6⟩, g9⟩ := hSw; go_simp) (by assumption) ?_
    try simp only [Act.put, List.setIfInBounds_toArray, List.set_cons_zero, List.set_cons_succ]
    refine any_yes 7 (.int .i64 size) rfl (by kernel_rfl) (by kernel_rfl) (by kernel_rfl) (fun _ _ _ h => h) (by rfl) (by intro w hSw; obtain ⟨⟨g0, g1, g2, g3, g6⟩, g9⟩ := hSw; go_simp) (by assumption) ?_
    try simp only [Act.put, List.setIfInBounds_toArray, List.set_cons_zero, List.set_cons_succ]
    refine any_yes 8 (.pointer (some ⟨B, 6, none⟩)) rfl (by kernel_rfl) (by kernel_rfl) (by kernel_rfl) (fun _ _ _ h => h) (by rfl) (by intro w hSw; obtain ⟨⟨g0, g1, g2, g3, g6⟩, g9⟩ := hSw; go_simp) (by assumption) ?_
    try simp only [Act.put, List.setIfInBounds_toArray, List.set_cons_zero, List.set_cons_succ]
    refine any_yes 9 rv rfl (by kernel_rfl) (by kernel_rfl) (by kernel_rfl) (fun _ _ _ h => h) (by rfl) (by intro w hSw; obtain ⟨⟨g0, g1, g2, g3, g6⟩, g9⟩ := hSw; go_simp) (by assumption) ?_
    try simp only [Act.put, List.setIfInBounds_toArray, List.set_cons_zero, List.set_cons_succ]
    refine any_two 10 13 (by kernel_rfl) rfl rfl (by rfl) (by rfl) (fun K' hK => ?_) (fun K' hK => ?_)
    · go_simp
      refine (HCV.out _ hHeld).mono ?_
      rintro x w9 ⟨u, rfl, hou, hb9⟩
      have hul : ∀ (w' : World) (ty : TypeId), (Builtin.len_ #[43] ty #[u]).run Try.prog w' = .ok (.int .i64 pg) w' := fun w' ty => by rw [HP.out]; exact hou.row.lenI w' ty
      clear hou
      go_simp
      refine hK.out _ _ (StT.step hb9 hHeld) (fun hHeld2 => ?_)
      clear hK K'
      try simp only [Act.put, List.setIfInBounds_toArray, List.set_cons_zero, List.set_cons_succ]
      refine any_yes 11 (.int .i64 pg) rfl (by kernel_rfl) (by kernel_rfl) (by kernel_rfl) (fun _ _ _ h => h) (by rfl) (by intro w hSw; obtain ⟨⟨g0, g1, g2, g3, g6⟩, g9⟩ := hSw; go_simp) (by assumption) ?_
      try simp only [Act.put, List.setIfInBounds_toArray, List.set_cons_zero, List.set_cons_succ]
      refine any_yes 12 (.agg #[.int .i64 no, .int .i64 kind, .int .i64 links, .int .i64 size, .int .i64 pg]) rfl (by kernel_rfl) (by kernel_rfl) (by kernel_rfl) (fun _ _ _ h => h) (by rfl) (by intro w hSw; obtain ⟨⟨g0, g1, g2, g3, g6⟩, g9⟩ := hSw; go_simp) (by assumption) ?_
      try simp only [Act.put, List.setIfInBounds_toArray, List.set_cons_zero, List.set_cons_succ]
      have HX9 := hide (kl_blk hb9 (kl_blk (kl_drew V) HRV.out))
      have HY9 := hide (kl_blk hb9 (kl_blk (kl_drew V) HBV.out))
      refine any_one 13 (by kernel_rfl) rfl (by rfl) (fun K' hK => ?_)
      go_simp
      refine hK.out _ _ (StT.step (kl_alloc w9 _) hHeld2) (fun hHeld3 => ?_)
      clear hK K' hb9
      try simp only [Act.put, List.setIfInBounds_toArray, List.set_cons_zero, List.set_cons_succ]
      have HRg := hide HX9.out.lt
      have HYl := hide HY9.out.lt
      refine any_one 14 (by kernel_rfl) rfl (by rfl) (fun K' hK => ?_)
      refine wp_store_mid 31 _ _ rfl w9.heap.size 0 #[.int .i64 no, .int .i64 kind, .int .i64 links, .int .i64 size, .int .i64 pg] rfl rfl (Blk.new w9 #[.int .i64 0, .int .i64 0, .int .i64 0, .int .i64 0, .int .i64 0] 31).there (by kernel_rfl) (by simp [Value.oneCell']) ?_
      refine hK.out _ _ (StT.over hHeld3 (by have := HYl.out; omega) (by have := HYl.out; rw [← HQ.out] at this; omega) _) (fun hHeld4 => ?_)
      clear hK K'
      refine wpAnyH_done (by kernel_rfl) ?_ _
      go_wp2
      go_meet
      exact ⟨_, rfl, blk_over5 (Blk.new w9 _ _) _ _ _ _ _, (kl_blk (kl_alloc w9 _) HX9.out).overOther (by have := HRg.out; omega) _ _ _ _ _, (kl_blk (kl_alloc w9 _) HY9.out).overOther (by have := HYl.out; omega) _ _ _ _ _, hHeld4.2, HRg.out⟩
    · go_simp
      have HX8 := hide (kl_blk (kl_alloc V.drew (.cells #[.int .i64 0, .int .i64 0, .int .i64 0, .int .i64 0, .int .i64 0] 31)) (kl_blk (kl_drew V) HRV.out))
      have HY8 := hide (kl_blk (kl_alloc V.drew (.cells #[.int .i64 0, .int .i64 0, .int .i64 0, .int .i64 0, .int .i64 0] 31)) (kl_blk (kl_drew V) HBV.out))
      have HN8 := hide (Blk.new V.drew #[.int .i64 0, .int .i64 0, .int .i64 0, .int .i64 0, .int .i64 0] 31)
      refine hK.out _ _ (StT.step (kl_alloc V.drew _) hHeld) (fun hHeld2 => ?_)
      clear hK K'
      try simp only [Act.put, List.setIfInBounds_toArray, List.set_cons_zero, List.set_cons_succ]
      refine any_one 10 (by kernel_rfl) rfl (by rfl) (fun K' hK => ?_)
      go_simp
      refine (HCV.out _ hHeld2).mono ?_
      rintro x w9 ⟨u, rfl, hou, hb9⟩
      have hul : ∀ (w' : World) (ty : TypeId), (Builtin.len_ #[43] ty #[u]).run Try.prog w' = .ok (.int .i64 pg) w' := fun w' ty => by rw [HP.out]; exact hou.row.lenI w' ty
      clear hou
      go_simp
      refine hK.out _ _ (StT.step hb9 hHeld2) (fun hHeld3 => ?_)
      clear hK K'
      try simp only [Act.put, List.setIfInBounds_toArray, List.set_cons_zero, List.set_cons_succ]
      refine any_yes 11 (.int .i64 pg) rfl (by kernel_rfl) (by kernel_rfl) (by kernel_rfl) (fun _ _ _ h => h) (by rfl) (by intro w hSw; obtain ⟨⟨g0, g1, g2, g3, g6⟩, g9⟩ := hSw; go_simp) (by assumption) ?_
      try simp only [Act.put, List.setIfInBounds_toArray, List.set_cons_zero, List.set_cons_succ]
      refine any_yes 12 (.agg #[.int .i64 no, .int .i64 kind, .int .i64 links, .int .i64 size, .int .i64 pg]) rfl (by kernel_rfl) (by kernel_rfl) (by kernel_rfl) (fun _ _ _ h => h) (by rfl) (by intro w hSw; obtain ⟨⟨g0, g1, g2, g3, g6⟩, g9⟩ := hSw; go_simp) (by assumption) ?_
      try simp only [Act.put, List.setIfInBounds_toArray, List.set_cons_zero, List.set_cons_succ]
      have HX9 := hide (kl_blk hb9 HX8.out)
      have HY9 := hide (kl_blk hb9 HY8.out)
      have HN9 := hide (kl_blk hb9 HN8.out)
      clear hb9
      have HYl := hide (show B < V.drew.heap.size from (kl_blk (kl_drew V) HBV.out).lt)
      have HRg := hide (show R < V.drew.heap.size from (kl_blk (kl_drew V) HRV.out).lt)
      refine any_one 14 (by kernel_rfl) rfl (by rfl) (fun K' hK => ?_)
      refine wp_store_mid 31 _ _ rfl V.drew.heap.size 0 #[.int .i64 no, .int .i64 kind, .int .i64 links, .int .i64 size, .int .i64 pg] rfl rfl HN9.out.there (by kernel_rfl) (by simp [Value.oneCell']) ?_
      refine hK.out _ _ (StT.over hHeld3 (Nat.ne_of_lt HYl.out) (by rw [HQ.out]; exact Nat.le_of_lt HYl.out) _) (fun hHeld4 => ?_)
      clear hK K'
      refine wpAnyH_done (by kernel_rfl) ?_ _
      go_wp2
      go_meet
      exact ⟨_, rfl, blk_over5 HN9.out _ _ _ _ _, HX9.out.overOther (Nat.ne_of_lt HRg.out) _ _ _ _ _, HY9.out.overOther (Nat.ne_of_lt HYl.out) _ _ _ _ _, hHeld4.2, HRg.out⟩
  case rest =>
    obtain ⟨g, rfl, hG, hR, hB, hb, hlt⟩ := hcut
    have HB := hide hb
    have hne : R ≠ g := Nat.ne_of_lt hlt
    have c1 : wc.cell? ⟨B, 1, none⟩ = some (.int .i64 kind) := hB.cell 1
    by_cases k2 : kind = 2
    · have k2' : (kind == 2) = true := by simpa using k2
      have HF := hide (HZ.out.trans (if_pos k2))
      have c5 : wc.cell? ⟨B, 5, none⟩ = some ev := hB.cell 5
      have g3 : wc.cell? ⟨g, 3, none⟩ = some (.int .i64 size) := hG.cell 3
      have fz := hG.frozen 3
      have HG2 := hide (hG.set 3 (.int .i64 len))
      have HX2 : Hid (Blk (wc.setCell ⟨g, 3, none⟩ (.int .i64 len)) R _ _) := hide (hR.kept (grown_setCell wc g 3 (.int .i64 len)) (by simp; omega))
      have HB2 := hide (HB.out.setCell (p := ⟨g, 3, none⟩) (by show w.heap.size ≤ g; rw [HQ.out]; have := HRB.out; omega) (.int .i64 len))
      clear k2 hb hB hG hR hlt HBV HRV HS HCN HCV
      go_upto_region 4 with fail
      generalize wc.setCell ⟨g, 3, none⟩ (.int .i64 len) = X at *
      clear c1 c5 g3 fz HB
      have a0 : X.cell? ⟨g, 0, none⟩ = _ := HG2.out.cell 0
      have a1 : X.cell? ⟨g, 1, none⟩ = _ := HG2.out.cell 1
      have a2 : X.cell? ⟨g, 2, none⟩ = _ := HG2.out.cell 2
      have a3 : X.cell? ⟨g, 3, none⟩ = _ := HG2.out.cell 3
      have a4 : X.cell? ⟨g, 4, none⟩ = _ := HG2.out.cell 4
      simp at a0 a1 a2 a3 a4
      have b0 : X.cell? ⟨R, 0, none⟩ = _ := HX2.out.cell 0
      have b1 : X.cell? ⟨R, 1, none⟩ = _ := HX2.out.cell 1
      have b2 : X.cell? ⟨R, 2, none⟩ = _ := HX2.out.cell 2
      have b3 : X.cell? ⟨R, 3, none⟩ = _ := HX2.out.cell 3
      have b4 : X.cell? ⟨R, 4, none⟩ = _ := HX2.out.cell 4
      simp at b0 b1 b2 b3 b4
      have d0 := HX2.out.frozen 0
      have d1 := HX2.out.frozen 1
      have d2 := HX2.out.frozen 2
      have d3 := HX2.out.frozen 3
      have d4 := HX2.out.frozen 4
      go_wp2
      refine bodyPost_ret (results_cell_row rfl _ _ R 31 _ (0, 0) _ rfl (blk_over5 HX2.out _ _ _ _ _) Try.underlying31 rfl (by kernel_rfl)) rfl ⟨by rw [HF.out], Lib.below_setCells R (by rw [HQ.out]; have := HRB.out; omega) [.int .i64 no, .int .i64 kind, .int .i64 links, .int .i64 len, .int .i64 pg] 0 HB2.out⟩
    · have k2' : (kind == 2) = false := by simpa using k2
      have HF := hide (HZ.out.trans (if_neg k2))
      have HG2 := hide hG
      have HX2 := hide hR
      have HB2 := HB
      clear k2 hb hB hG hR hlt HBV HRV HS HCN HCV
      go_upto_region 4 with fail
      generalize wc = X at *
      clear c1 HB
      have a0 : X.cell? ⟨g, 0, none⟩ = _ := HG2.out.cell 0
      have a1 : X.cell? ⟨g, 1, none⟩ = _ := HG2.out.cell 1
      have a2 : X.cell? ⟨g, 2, none⟩ = _ := HG2.out.cell 2
      have a3 : X.cell? ⟨g, 3, none⟩ = _ := HG2.out.cell 3
      have a4 : X.cell? ⟨g, 4, none⟩ = _ := HG2.out.cell 4
      simp at a0 a1 a2 a3 a4
      have b0 : X.cell? ⟨R, 0, none⟩ = _ := HX2.out.cell 0
      have b1 : X.cell? ⟨R, 1, none⟩ = _ := HX2.out.cell 1
      have b2 : X.cell? ⟨R, 2, none⟩ = _ := HX2.out.cell 2
      have b3 : X.cell? ⟨R, 3, none⟩ = _ := HX2.out.cell 3
      have b4 : X.cell? ⟨R, 4, none⟩ = _ := HX2.out.cell 4
      simp at b0 b1 b2 b3 b4
      have d0 := HX2.out.frozen 0
      have d1 := HX2.out.frozen 1
      have d2 := HX2.out.frozen 2
      have d3 := HX2.out.frozen 3
      have d4 := HX2.out.frozen 4
      go_wp2
      refine bodyPost_ret (results_cell_row rfl _ _ R 31 _ (0, 0) _ rfl (blk_over5 HX2.out _ _ _ _ _) Try.underlying31 rfl (by kernel_rfl)) rfl ⟨by rw [HF.out], Lib.below_setCells R (by rw [HQ.out]; have := HRB.out; omega) [.int .i64 no, .int .i64 kind, .int .i64 links, .int .i64 size, .int .i64 pg] 0 HB2.out⟩
end Go.Proofs.Ytlfodhffecadoaa
