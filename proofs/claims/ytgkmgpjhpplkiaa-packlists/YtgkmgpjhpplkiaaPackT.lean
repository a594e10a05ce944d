/-
  The program's Parse.
-/
import Derived.BigQuiet
import Derived.BigRegion
import Derived.Test.YtgkmgpjhpplkiaaPackO
namespace Go.Proofs.Ytgkmgpjhpplkiaa
open Go.RowKit
set_option linter.unusedVariables false
set_option maxRecDepth 100000

theorem app_cons (m : List Dd) (d : Dd) (r : List Dd × Int) : appD m (consD d r) = appD (m ++ [d]) r := by
  unfold appD consD
  by_cases h : r.2 = 0
  · simp [h]
  · simp [h]
theorem un_step {xs : List Int} {a n : Nat} {x : Dd} {at' er : Int} (ha : a < xs.length) (h : NextD xs a x at' er) :
    (er ≠ 0 → unS (n + 1) (xs.drop a) = ([], er)) ∧ (er = 0 → ∃ a' : Nat, at' = a' ∧ a + 1 ≤ a' ∧ a' ≤ xs.length ∧ unS (n + 1) (xs.drop a) = consD x (unS n (xs.drop a'))) := by
  rw [drop_cons ha, unS]
  unfold NextD at h
  by_cases hk : xs.getD a 0 < 1 ∨ 4 < xs.getD a 0
  · rw [if_pos hk] at h
    subst h
    rw [if_pos hk]
    exact ⟨fun _ => rfl, fun e => by cases e⟩
  · rw [if_neg hk] at h
    rw [if_neg hk]
    unfold NextP at h
    cases hd : deedD (xs.getD a 0) (xs.drop (a + 1)) with
    | none =>
      rw [hd] at h
      dsimp only at h ⊢
      subst h
      exact ⟨fun _ => rfl, fun e => by cases e⟩
    | some p =>
      rw [hd] at h
      dsimp only at h ⊢
      obtain ⟨rfl, rfl, a', h1, h2, h3, h4⟩ := h
      exact ⟨fun e => absurd rfl e, fun _ => ⟨a', h1, h3, h4, by rw [h2]⟩⟩

theorem EOwn.beside {base : Nat} {w w' : World} {u v : Value} {n : Nat} {xs : List Value} {l : List En} (h : EOwn base w v l) (ho : w.ownsRow base 38 9 u n xs) (hg : w.grownBy w' u.ownBlock) : EOwn base w' v l := by
  refine ⟨h.1.kept hg ?_, h.2⟩
  rcases h.1.2 with ⟨hn, _⟩ | ⟨g, cap, cur, hv, hbg, hh, _⟩
  · exact .inl (by rw [hn]; rfl)
  · right
    rcases ho.2 with ⟨hn, _⟩ | ⟨g', cap', cur', hu, _, hh', _⟩
    · rw [hv, hn]; simp [Value.ownBlock]
    · rw [hv, hu]
      intro e
      have e' : g = g' := by simpa [Value.ownBlock] using e
      rw [e', hh'] at hh
      simp only [Option.some.injEq, Obj.cells.injEq] at hh
      exact absurd hh.2.1 (by decide)
theorem ROwn.beside {base : Nat} {w w' : World} {u v : Value} {n : Nat} {xs : List Value} {l : List Rn} (h : ROwn base w v l) (ho : w.ownsRow base 38 9 u n xs) (hg : w.grownBy w' u.ownBlock) : ROwn base w' v l := by
  refine ⟨h.1.kept hg ?_, h.2⟩
  rcases h.1.2 with ⟨hn, _⟩ | ⟨g, cap, cur, hv, hbg, hh, _⟩
  · exact .inl (by rw [hn]; rfl)
  · right
    rcases ho.2 with ⟨hn, _⟩ | ⟨g', cap', cur', hu, _, hh', _⟩
    · rw [hv, hn]; simp [Value.ownBlock]
    · rw [hv, hu]
      intro e
      have e' : g = g' := by simpa [Value.ownBlock] using e
      rw [e', hh'] at hh
      simp only [Option.some.injEq, Obj.cells.injEq] at hh
      exact absurd hh.2.1 (by decide)
/-- Deeds that the call made, with all that hangs on them. -/
def DMade (base : Nat) (w : World) (v : Value) (l : List Dv) : Prop :=
  (w.ownsRow base 38 9 v l.length (flatD l) ∧ ∀ x ∈ l, x.Wf) ∧ ∀ x ∈ l, EOwn base w x.ev x.d.x.es ∧ ROwn base w x.rv x.d.x.rs
theorem DMade.nil (base : Nat) (w : World) : DMade base w (.slice none 0 0) [] := ⟨⟨World.ownsRow_nil _ _ _ _, fun r h => by cases h⟩, fun r h => by cases h⟩
theorem DMade.own {base : Nat} {w : World} {v : Value} {l : List Dv} (h : DMade base w v l) : DOwn base w v l :=
  ⟨h.1, fun x hx => ⟨⟨(h.2 x hx).1.row, (h.2 x hx).2.row⟩, .inr ((h.2 x hx).1.apart _), .inr ((h.2 x hx).2.apart _)⟩⟩
theorem DMade.kept {base : Nat} {w w' : World} {v : Value} {l : List Dv} (h : DMade base w v l) (hb : Below w.heap.size w w') : DMade base w' v l :=
  ⟨⟨h.1.1.kept (row := none) ⟨hb.os, hb.tape, hb.output, hb.size, fun k hk _ => hb.block k hk⟩ (by cases hv : v.ownBlock <;> simp), h.1.2⟩, fun x hx => ⟨(h.2 x hx).1.kept hb, (h.2 x hx).2.kept hb⟩⟩
theorem DMade.grown {base : Nat} {w w' : World} {v : Value} {l : List Dv} {r : Option Nat} (h : DMade base w v l) (hg : w.grownBy w' r) (hr : ∀ k, r = some k → k < base) : DMade base w' v l := by
  refine ⟨⟨h.1.1.kept hg ?_, h.1.2⟩, fun x hx => ⟨(h.2 x hx).1.grown hg hr, (h.2 x hx).2.grown hg hr⟩⟩
  cases hv : v.ownBlock with
  | none => exact .inl rfl
  | some k =>
    right
    intro e
    have h1 := (h.own.block k hv).1
    have h2 := hr k e.symm
    omega
theorem DMade.mono {base base' : Nat} {w : World} {v : Value} {l : List Dv} (h : DMade base w v l) (hb : base' ≤ base) : DMade base' w v l := by
  refine ⟨⟨⟨h.1.1.1, ?_⟩, h.1.2⟩, fun x hx => ⟨(h.2 x hx).1.mono hb, (h.2 x hx).2.mono hb⟩⟩
  rcases h.1.1.2 with hn | ⟨g, cap, cur, hv, hbg, r⟩
  · exact .inl hn
  · exact .inr ⟨g, cap, cur, hv, Nat.le_trans hb hbg, r⟩
/-- append of one deed. -/
theorem DMade.more {base : Nat} {w w' : World} {v v' : Value} {l : List Dv} {x : Dv} (h : DMade base w v l) (he : EOwn base w x.ev x.d.x.es) (hr : ROwn base w x.rv x.d.x.rs) (ho : DOwn base w' v' (l ++ [x])) (hg : w.grownBy w' v.ownBlock) : DMade base w' v' (l ++ [x]) := by
  refine ⟨ho.1, fun y hy => ?_⟩
  rcases List.mem_append.1 hy with h' | h'
  · exact ⟨(h.2 y h').1.beside h.1.1 hg, (h.2 y h').2.beside h.1.1 hg⟩
  · rw [List.mem_singleton] at h'
    subst h'
    exact ⟨he.beside h.1.1 hg, hr.beside h.1.1 hg⟩
/-- One deed in a new block. -/
theorem deed_new (w : World) (x : Dv) (h : x.Wf) (hr : x.Reads w) (cs : Array Value) (t : TypeId) (hcs : cs.toList = x.cells) : DRow (w.alloc (.cells cs t)) (.slice (some ⟨w.heap.size, 0, none⟩) 1 1) [x] := by
  refine ⟨⟨⟨_, 1, rfl, Nat.le_refl _, by unfold maxLen; omega, by simp, fun a ha i r hr j u hu => ?_⟩, fun r hr => by rw [List.mem_singleton] at hr; subst hr; exact h⟩, fun r hr' => by rw [List.mem_singleton] at hr'; subst hr'; exact hr.below (kl_alloc _ _)⟩
  obtain rfl := Option.some.inj ha
  have hi : i = 0 := by have := (List.getElem?_eq_some_iff.1 hr).1; simpa using this
  subst hi
  simp at hr
  subst hr
  rw [Addr.add_lit, (Blk.new w cs t).cell, ← Array.getElem?_toList, hcs]
  simpa using hu

/-- Answers such deeds, and an error. -/
def SaysL (r : List Dd × Int) (w : World) (e : Ending) (w' : World) : Prop := ∃ (u : Value) (ds : List Dv), e = .returned (.tuple #[u, .int .i64 r.2]) ∧ DMade w.heap.size w' u ds ∧ ds.map Dv.d = r.1 ∧ Below w.heap.size w w'

set_option maxHeartbeats 8000000 in
theorem Parse_any (w : World) (b : Value) (xs : List Int) (hr : Row w b xs) (hx : xs.length ≤ 1000000) :
    Calls Try.prog 11 #[b] w (SaysL (parseS xs) w) := by
  obtain ⟨ao, cap, hv⟩ := hr.of_len
  have HFin := hide (fun (u : Value) (ds : List Dv) (er : Int) (e : Ending) (w' : World) (h1 : e = .returned (.tuple #[u, .int .i64 er])) (h2 : DMade w.heap.size w' u ds) (h3 : (ds.map Dv.d, er) = parseS xs) (h4 : Below w.heap.size w w') => (show SaysL (parseS xs) w e w' from ⟨u, ds, by rw [← h3]; exact h1, h2, by rw [← h3], h4⟩))
  have HPS := hide (show parseS xs = appD [] (unS (xs.length + 1) (xs.drop 0)) by rw [app_nil (un_err _ _)]; rfl)
  generalize hG : SaysL (parseS xs) w = G at *
  clear hG
  have HX := hide hx
  have HR := hide hr
  obtain ⟨len, hL⟩ : ∃ n, xs.length = n := ⟨_, rfl⟩
  have HL := hide hL
  rw [hL] at hv
  have hlm : len ≤ 1000000 := by omega
  subst hv
  clear hr hx hL
  have hba := kl_alloc w (.cells #[.slice ao len cap, .int .i64 0, .int .i64 0] 53)
  have HB0 := hide (show RdQ _ _ (.slice ao len cap) ⟨((0 : Nat) : Int), false⟩ from Blk.new w #[.slice ao len cap, .int .i64 0, .int .i64 0] 53)
  have HG0 := hide hba
  have HZ0 := hide (show (w.alloc (.cells #[.slice ao len cap, .int .i64 0, .int .i64 0] 53)).heap.size = w.heap.size + 1 by simp)
  clear hba
  go_enter Try.func11, Try.ntmps11
  go_wp2
  generalize w.alloc (.cells #[.slice ao len cap, .int .i64 0, .int .i64 0] 53) = W0 at *
  have HRW := hide (fun w' (hg : W0.grownBy w' (some w.heap.size)) => HR.out.below (show Below w.heap.size w w' from ⟨hg.os.trans HG0.out.os, hg.tape.trans HG0.out.tape, hg.output.trans HG0.out.output, Nat.le_trans HG0.out.size hg.size, fun k hk => (hg.block k (by have := HZ0.out; omega) (by simp; omega)).trans (HG0.out.block k hk)⟩))
  generalize hA : w.heap.size = P at *
  have HAE := hide hA
  clear hA HR
  go_loopw [4] (fun u wr => ∃ (a n : Nat) (ds : List Dv), Hid (a ≤ xs.length) ∧ Hid (xs.length < a + n) ∧ Hid (ds.length ≤ a) ∧ Hid (RdQ wr P (.slice ao len cap) ⟨(a : Int), false⟩) ∧ Hid (W0.grownBy wr (some P)) ∧ Hid (DMade (P + 1) wr u ds) ∧ Hid (parseS xs = appD (ds.map Dv.d) (unS n (xs.drop a)))) (fun u wr => len - (intOf ((wr.cell? ⟨P, 1, none⟩).getD (.int .i64 0))).toNat)
  case atStart => exact ⟨0, xs.length + 1, [], hide (Nat.zero_le _), hide (by omega), hide (by simp), HB0, hide (World.grownBy.refl _ _), hide (DMade.nil _ _), HPS⟩
  case round =>
    obtain ⟨a, n, ds, HA, HN, HDL, HB, HG, HD, HP⟩ := hrel
    have c1 : wr.cell? ⟨P, 1, none⟩ = some (.int .i64 (a : Int)) := HB.out.cell 1
    by_cases hal : a < len
    · have hal' : (a : Int) < len := by omega
      have hax : a < xs.length := by rw [HL.out]; exact hal
      have HC := hide (PDeed_any wr P (.slice ao len cap) xs a HB.out (fun w' hg => HRW.out w' (grown_trans HG.out hg)) hax HX.out)
      have HU := hide (fun m x at' er (h : NextD xs a x at' er) => un_step (n := m) hax h)
      have HSZ := hide (show P + 1 ≤ wr.heap.size by rw [← HZ0.out]; exact HG.out.size)
      go_wp2_with fail
      refine HC.out.mono ?_
      rintro e w1 ⟨x, at', er, rfl, hwf, hev, hrv, hq, hg, hnx⟩
      have HNX := hide (HU.out (n - 1) _ _ _ hnx)
      obtain ⟨⟨kk, nn, ⟨no, kind, links, size, t, es, rs⟩⟩, ev, rv⟩ := x
      dsimp only at hev hrv
      obtain ⟨ea, ec, hea⟩ := hev.row.of_len
      obtain ⟨ra, rc, hra⟩ := hrv.row.of_len
      generalize es.length = le at hea
      generalize rs.length = lr at hra
      subst hea hra
      have HWF := hide hwf
      have HEV := hide (hev.mono HSZ.out)
      have HRV := hide (hrv.mono HSZ.out)
      have HB1 := hide hq
      have HG1 := hide (grown_trans HG.out hg)
      have HD1 := hide (HD.out.grown hg (fun k e => by cases e; omega))
      have HSZ1 := hide (Nat.le_trans HSZ.out hg.size)
      clear hwf hev hrv hq hg hnx HC HU HB HG HD HSZ
      have hba := kl_alloc w1 (.cells #[.int .i64 kk, .int .i64 nn, .int .i64 no, .int .i64 kind, .int .i64 links, .int .i64 size, .string t, .slice ea le ec, .slice ra lr rc] 38)
      have HDB := hide (Blk.new w1 #[.int .i64 kk, .int .i64 nn, .int .i64 no, .int .i64 kind, .int .i64 links, .int .i64 size, .string t, .slice ea le ec, .slice ra lr rc] 38)
      have HB2 := hide (kl_blk hba HB1.out)
      have HG2 := hide (grown_trans HG1.out (below_grown hba (some P)))
      have HD2 := hide (HD1.out.kept hba)
      have HEV2 := hide (HEV.out.kept hba)
      have HRV2 := hide (HRV.out.kept hba)
      have HSZ2 := hide (Nat.le_trans HSZ1.out hba.size)
      clear hba HB1 HG1 HD1 HEV HRV
      simp only [Dv.cells]
      go_upto_region 5 with fail
      generalize w1.alloc (.cells #[.int .i64 kk, .int .i64 nn, .int .i64 no, .int .i64 kind, .int .i64 links, .int .i64 size, .string t, .slice ea le ec, .slice ra lr rc] 38) = V at *
      generalize hD : w1.heap.size = D at *
      clear hD HSZ1
      have p2 : V.cell? ⟨P, 2, none⟩ = some (.int .i64 er) := HB2.out.cell 2
      by_cases her : er = 0
      · subst her
        obtain ⟨a', ha1, ha2, ha3, ha4⟩ := HNX.out.2 rfl
        have HHA := hide (And.intro ha2 (And.intro ha3 ha4))
        subst ha1
        clear ha2 ha3 ha4
        have e0 : V.cell? ⟨D, 0, none⟩ = some (.int .i64 kk) := HDB.out.cell 0
        have e1 : V.cell? ⟨D, 1, none⟩ = some (.int .i64 nn) := HDB.out.cell 1
        have e2 : V.cell? ⟨D, 2, none⟩ = some (.int .i64 no) := HDB.out.cell 2
        have e3 : V.cell? ⟨D, 3, none⟩ = some (.int .i64 kind) := HDB.out.cell 3
        have e4 : V.cell? ⟨D, 4, none⟩ = some (.int .i64 links) := HDB.out.cell 4
        have e5 : V.cell? ⟨D, 5, none⟩ = some (.int .i64 size) := HDB.out.cell 5
        have e6 : V.cell? ⟨D, 6, none⟩ = some (.string t) := HDB.out.cell 6
        have e7 : V.cell? ⟨D, 7, none⟩ = some (.slice ea le ec) := HDB.out.cell 7
        have e8 : V.cell? ⟨D, 8, none⟩ = some (.slice ra lr rc) := HDB.out.cell 8
        have HRow := hide (show DRow (V.alloc (.cells #[.int .i64 kk, .int .i64 nn, .int .i64 no, .int .i64 kind, .int .i64 links, .int .i64 size, .string t, .slice ea le ec, .slice ra lr rc] 38)) (.slice (some ⟨V.heap.size, 0, none⟩) 1 1) [⟨⟨kk, nn, ⟨no, kind, links, size, t, es, rs⟩⟩, .slice ea le ec, .slice ra lr rc⟩] from deed_new V _ HWF.out ⟨HEV2.out.row, HRV2.out.row⟩ _ _ rfl)
        have hba := kl_alloc V (.cells #[.int .i64 kk, .int .i64 nn, .int .i64 no, .int .i64 kind, .int .i64 links, .int .i64 size, .string t, .slice ea le ec, .slice ra lr rc] 38)
        have HB3 := hide (kl_blk hba HB2.out)
        have HG3 := hide (grown_trans HG2.out (below_grown hba (some P)))
        have HD3 := hide (HD2.out.kept hba)
        have HEV3 := hide (HEV2.out.kept hba)
        have HRV3 := hide (HRV2.out.kept hba)
        have HSZ3 := hide (Nat.le_trans HSZ2.out hba.size)
        have HF := hide (show ds.length + [(⟨⟨kk, nn, ⟨no, kind, links, size, t, es, rs⟩⟩, .slice ea le ec, .slice ra lr rc⟩ : Dv)].length ≤ 1000000000000 by have h1 := HDL.out; have h2 := HA.out; have h3 := HX.out; simp; omega)
        clear hba
        go_wp2_with (at_builtin; refine wpList_append_deeds rfl _ _ rfl (P + 1) _ _ ds [⟨⟨kk, nn, ⟨no, kind, links, size, t, es, rs⟩⟩, .slice ea le ec, .slice ra lr rc⟩] rfl HD3.out.own rfl HRow.out (by intro y hy; rw [List.mem_singleton] at hy; subst hy; exact ⟨.inr (HEV3.out.apart _), .inr (HRV3.out.apart _)⟩) HF.out HSZ3.out ?_)
        intro u4 w4 ho4 hg4
        have HD4 := hide (HD3.out.more HEV3.out HRV3.out ho4 hg4)
        have HB4 := hide (show RdQ w4 P (.slice ao len cap) ⟨(a' : Int), false⟩ from Blk.kept HB3.out hg4 (fun e => by have h1 := (HD3.out.own.block P e.symm).1; omega))
        have HG4 := hide (grown_mix HG3.out hg4 (fun j e => by have h1 := (HD3.out.own.block j e).1; have h2 := HZ0.out; omega))
        have c4 : w4.cell? ⟨P, 1, none⟩ = some (.int .i64 (a' : Int)) := HB4.out.cell 1
        have HQ4 := hide (show parseS xs = appD ((ds ++ [(⟨⟨kk, nn, ⟨no, kind, links, size, t, es, rs⟩⟩, .slice ea le ec, .slice ra lr rc⟩ : Dv)]).map Dv.d) (unS (n - 1) (xs.drop a')) by
          have h1 := HP.out
          have h2 := HHA.out.2.2
          have h3 : n - 1 + 1 = n := by have := HN.out; have := HA.out; omega
          rw [h3] at h2
          rw [h1, h2, app_cons, List.map_append]
          rfl)
        clear ho4 hg4 e0 e1 e2 e3 e4 e5 e6 e7 e8
        have HM := hide (show len - a' < len - a by have h1 := HHA.out.1; omega)
        go_wp2
        exact ⟨⟨a', n - 1, _, hide HHA.out.2.1, hide (by have h1 := HN.out; have h2 := HHA.out.1; omega), hide (by have h1 := HDL.out; have h2 := HHA.out.1; simp; omega), HB4, HG4, HD4, HQ4⟩, by rw [c1, c4]; simp only [Option.getD_some, intOf]; exact HM.out⟩
      · have hne : (er == 0) = false := by simpa using her
        have hne' : (er != 0) = true := by simpa using her
        have HE := hide (show ([], er) = parseS xs by
          have h1 := HP.out
          have h2 := HNX.out.1 her
          have h3 : n - 1 + 1 = n := by have := HN.out; have := HA.out; omega
          rw [h3] at h2
          rw [h1, h2]
          unfold appD
          rw [if_neg her])
        clear her
        have HBL := hide (show Below P w V from ⟨HG2.out.os.trans HG0.out.os, HG2.out.tape.trans HG0.out.tape, HG2.out.output.trans HG0.out.output, Nat.le_trans HG0.out.size HG2.out.size, fun k hk => (HG2.out.block k (by have := HZ0.out; omega) (by simp; omega)).trans (HG0.out.block k hk)⟩)
        go_wp2_with fail
        go_region
        all_goals go_wp2
        all_goals exact HFin.out _ [] _ _ _ rfl (DMade.nil _ _) HE.out (HBL.out.trans ((kl_drew _).mono (by have := HSZ2.out; omega)))
    · have hal2 : ¬ ((a : Int) < len) := by omega
      have HE := hide (show (ds.map Dv.d, (0 : Int)) = parseS xs by
        have h1 := HP.out
        obtain ⟨m, rfl⟩ : ∃ m, n = m + 1 := ⟨n - 1, by have := HN.out; have := HA.out; omega⟩
        have ha : a = xs.length := by have := HA.out; rw [HL.out] at this ⊢; omega
        rw [h1, ha, List.drop_length, un_nil]
        simp [appD])
      have HBL := hide (show Below P w wr from ⟨HG.out.os.trans HG0.out.os, HG.out.tape.trans HG0.out.tape, HG.out.output.trans HG0.out.output, Nat.le_trans HG0.out.size HG.out.size, fun k hk => (HG.out.block k (by have := HZ0.out; omega) (by simp; omega)).trans (HG0.out.block k hk)⟩)
      go_wp2
      exact HFin.out _ ds _ _ _ rfl (HD.out.mono (Nat.le_succ _)) HE.out HBL.out
end Go.Proofs.Ytgkmgpjhpplkiaa
