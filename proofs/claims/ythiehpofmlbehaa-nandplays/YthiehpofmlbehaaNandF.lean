/-
  The contracts of package nand: Erase.
-/
import Derived.Test.YthiehpofmlbehaaNandE
namespace Go.Proofs.Ythiehpofmlbehaa
open Go.RowKit
set_option linter.unusedVariables false
set_option maxRecDepth 100000

theorem only_drew5 (w : World) : Only [] w w.drew := only_grown (grown_drew w none) (by simp)

set_option maxHeartbeats 2000000 in
theorem tearErase_any (base : Nat) (w : World) (L : DLay) (S : PSt) (N : DSt) (m n : Nat) (h : NDev base w L S N m) (okS : S.Ok n) (ok : N.Ok n) (i : Nat) (hi : i < N.C) :
    Calls Try.prog 39 #[.pointer (some ⟨L.c, 0, none⟩), .int .i64 i] w fun e w' =>
      e = .returned (.tuple #[]) ∧ NDev base w' L S (N.wipe i S.mask) m ∧ OnlyB base [] w w' := by
  have c7 := h.chip.blk.cell 7
  simp [dcells] at c7
  have ci := h.chip.nextAt (j := i) (by rw [ok.nl]; omega)
  have hnx := ok.nxAt hi
  have hC1 := ok.C1
  have hD1 := ok.D1
  have hE1 := ok.E1
  have hmask := okS.mask
  have hiC : (i : Int) < N.C := by omega
  obtain ⟨f, hf, hpg⟩ := h.chip.pgs
  obtain ⟨⟨n1, n2, n3, n4, n5, n6⟩, m1, m2, m3, m4⟩ := h.chip.ne
  obtain ⟨l1, l2, l3, l4⟩ := h.chip.lt
  obtain ⟨q, hq⟩ := Int.eq_ofNat_of_zero_le hnx.1
  have hqD : q ≤ N.D := by omega
  have hwip : ∀ (wr : World), PowE wr L.pb L.mo S → PgMap wr L.mb m f → Pages base wr L (N.tear i S.mask q) f → OnlyB base [] w wr → NDev base wr L S (N.wipe i S.mask) m := by
    intro wr hP hM hG hO
    exact ⟨hP, ⟨h.chip.blk.onlyB hO l1 (by simp), h.chip.nxt.onlyB hO l3 (by simp), h.chip.ers.onlyB hO l4 (by simp), ⟨f, hM, hG.tornAll ok hi hqD hq.symm hmask⟩, h.chip.lt, h.chip.ne⟩, h.mo⟩
  have hcell : ∀ wr, OnlyB base [] w wr → wr.cell? ⟨L.c, 5, none⟩ = some (.pointer (some ⟨L.pb, 0, none⟩)) ∧ wr.cell? ⟨L.c, 6, none⟩ = some (.map (some L.mb)) := by
    intro wr hO
    have hb := h.chip.blk.onlyB hO l1 (by simp)
    exact ⟨(hb.cell 5).trans rfl, (hb.cell 6).trans rfl⟩
  have hround : ∀ (wr : World) (k : Nat), k < q → PowE wr L.pb L.mo S → PgMap wr L.mb m f → Pages base wr L (N.tear i S.mask k) f → OnlyB base [] w wr →
      Calls Try.prog 52 #[(f i k).getD (.slice none 0 0), .int .u8 S.mask] wr fun e w' => e = .returned (.tuple #[]) ∧ PowE w' L.pb L.mo S ∧ PgMap w' L.mb m f ∧ Pages base w' L (N.tear i S.mask (k + 1)) f ∧ OnlyB base [] w w' := by
    intro wr k hk hP hM hG hO
    have hkD : k < N.D := by omega
    cases hfk : f i k with
    | none =>
      refine (setBits5_nil wr S.mask).mono ?_
      rintro e w' ⟨rfl, rfl⟩
      exact ⟨rfl, hP, hM, hG.torn ok hi hkD hmask (fun v hv => by rw [hfk] at hv; cases hv) (fun _ => rfl), hO⟩
    | some v =>
      obtain ⟨g, cap, rfl, ho, hn, hx⟩ := hG.own i k v hi hkD hfk
      have hgb := ho.block g rfl
      have hpk : (N.tear i S.mask k).pg i k = N.pg i k := by rw [tear_pg ok S.mask hi (by omega) hi hkD, if_neg (by omega)]
      rw [hpk] at ho
      refine (setBits5_any base wr g (N.E + 16) cap S.mask (N.pg i k) ho (ok.pgLen hi hkD) (by omega)).mono ?_
      rintro e w' ⟨rfl, ho', hg'⟩
      have hO' : Only [g] wr w' := only_grown hg' (fun k e => by cases e; simp)
      refine ⟨rfl, hP.only hO' (by simp; omega) (fun z hz => by simp; rintro rfl; exact hn.2 hz), hM.only hO' (by simpa using fun e => hn.1 e.symm), hG.torn ok hi hkD hmask (fun u hu => ?_) (fun e => by rw [hfk] at e; cases e), hO.trans (hO'.upto (by simp; omega) (fun z hz => by simp at hz; subst hz; exact .inr ho.typed))⟩
      rw [hfk] at hu
      cases hu
      exact ⟨ho', g, _, _, rfl, hO'⟩
  have HW := hide hwip
  have HC := hide hcell
  have HR := hide hround
  have hstart : PowE w L.pb L.mo S ∧ PgMap w L.mb m f ∧ Pages base w L (N.tear i S.mask 0) f := ⟨h.pow, hf, by rw [tear_zero]; exact hpg⟩
  rw [hq] at ci
  clear hwip hcell hround hpg hf h hnx hq
  go_enter Try.func39, Try.ntmps39
  go_wp2_with fail
  go_loopw [12] (fun v wr => ∃ k : Nat, k ≤ q ∧ v = .int .i64 k ∧ PowE wr L.pb L.mo S ∧ PgMap wr L.mb m f ∧ Pages base wr L (N.tear i S.mask k) f ∧ OnlyB base [] w wr) (fun v _ => q - (intOf v).toNat)
  case atStart => exact ⟨0, Nat.zero_le _, rfl, hstart.1, hstart.2.1, hstart.2.2, OnlyB.refl _ _ _⟩
  case round =>
    obtain ⟨k, hk, rfl, hP, hM, hG, hO⟩ := hrel
    by_cases hlt : k < q
    · have hOd := hO.trans ((only_drew5 wr).upto (by simp) (by simp))
      have hPd := hP.only (only_drew5 wr) (by simp) (by simp)
      have hMd := hM.only (only_drew5 wr) (by simp)
      have hGd := hG.only (only_drew5 wr) (by simp)
      obtain ⟨d5, d6⟩ := HC.out _ hO
      have hlook := hMd.look1 i k (by omega) (by omega)
      have hmk := MaskE_any wr.drew L.pb L.mo S hPd
      have hset := HR.out wr.drew k hlt hPd hMd hGd hOd
      have hval : ∃ xa xn xc, (f i k).getD (.slice none 0 0) = .slice xa xn xc := by
        cases hfk : f i k with
        | none => exact ⟨_, _, _, rfl⟩
        | some v =>
          obtain ⟨g, cap, rfl, _⟩ := hG.own i k v hi (show k < N.D by omega) hfk
          exact ⟨_, _, _, rfl⟩
      obtain ⟨xa, xn, xc, hv⟩ := hval
      rw [hv] at hlook hset
      clear hv hP hM hG hO hPd hMd hGd hOd HR HW HC
      go_wp2_with fail
      refine still_tail_drew 13 (by kernel_rfl) (by kernel_rfl) ?_
      simp only [List.take_succ_cons, List.take_zero, List.drop_succ_cons, List.drop_zero]
      repeat (first | still_step | still_call hmk)
      refine wpStill_nil ?_
      go_wp2_with fail
      refine hset.mono ?_
      rintro e w' ⟨rfl, hP', hM', hG', hO'⟩
      go_wp2
      exact ⟨⟨k + 1, by omega, by go_num, hP', hM', hG', hO'⟩, by simp [intOf]; omega⟩
    · obtain rfl : k = q := by omega
      have R := HW.out wr hP hM hG hO
      clear HW HC HR hP hM hG
      go_wp2
      go_end0
      exact ⟨rfl, R, hO⟩

theorem erase_on {S : PSt} {N : DSt} {i : Nat} (hi : i < N.C) : eraseD S N i = if S.step.1 then
      (if S.step.2.2.failed then (7, S.step.2.2, N) else (0, S.step.2.2, (N.wipe i 255).count i))
    else if S.step.2.1 then (6, S.step.2.2, N.wipe i S.step.2.2.mask) else (6, S.step.2.2, N) := by
  have h0 : isB N i = true := by simp [isB]; omega
  unfold eraseD
  rw [h0, if_pos rfl, Int.toNat_natCast]

set_option maxHeartbeats 2000000 in
theorem Erase5_any (base : Nat) (w : World) (L : DLay) (S : PSt) (N : DSt) (m n : Nat) (h : NDev base w L S N m) (okS : S.Ok n) (ok : N.Ok n) (hn : n < 800000) (b : Int) (hb : (Lit.int .i64 b).wf = true) :
    Calls Try.prog 13 #[.pointer (some ⟨L.c, 0, none⟩), .int .i64 b] w fun e w' =>
      e = .returned (.int .i64 (eraseD S N b).1) ∧ NDev base w' L (eraseD S N b).2.1 (eraseD S N b).2.2 m ∧ (S.step.2.1 = false → Only [L.pb, L.mb, L.nb, L.eb] w w') ∧ OnlyB base [L.pb, L.mb, L.nb, L.eb] w w' := by
  have hB := isBlock_any base w L N m n h.chip ok b hb
  by_cases h0 : isB N b = true
  · have hu := isB_of h0
    obtain ⟨i, rfl⟩ := Int.eq_ofNat_of_zero_le hu.1
    have hi : i < N.C := by omega
    rw [h0] at hB
    rw [erase_on hi]
    have hst := StepE_any w L.pb L.mo S n h.pow okS (by omega)
    have hnb := step_not_both5 S
    have okS' := okS.step
    have c5 := h.chip.blk.cell 5
    simp [dcells] at c5
    have hiC : (i : Int) < N.C := by omega
    have hC1 := ok.C1
    obtain ⟨⟨done, torn, S'⟩, hS'⟩ : ∃ q, S.step = q := ⟨_, rfl⟩
    rw [hS'] at hst hnb okS' ⊢
    simp only at hst hnb okS' ⊢
    clear hS' h0 hu
    cases done with
    | true =>
      have ht := hnb rfl
      subst ht
      simp only [if_true]
      have hF := fun w1 (hP1 : PowE w1 L.pb L.mo S') => FailsE_any w1 L.pb L.mo S' (n + 1) hP1 okS' (by omega)
      cases hf : S'.failed with
      | true =>
        simp only [hf] at hF
        simp only [if_true]
        go_enter Try.func13, Try.ntmps13
        go_wp2_with fail
        refine hB.mono ?_
        rintro e w0 ⟨rfl, rfl⟩
        go_wp2_with fail
        refine hst.mono ?_
        rintro e w1 ⟨rfl, hP1, hg1⟩
        have h1 := h.step hP1 hg1
        have hO1 : Only [L.pb, L.mb, L.nb, L.eb] w0 w1 := only_grown hg1 (fun k e => by cases e; simp)
        have d5 := h1.chip.blk.cell 5
        simp [dcells] at d5
        have hF1 := hF w1 hP1
        clear hF hst hB c5
        go_wp2_with fail
        refine hF1.mono ?_
        rintro e w2 ⟨rfl, hg2⟩
        have h2 := h1.below' (grown_below hg2)
        have hO2 : Only [L.pb, L.mb, L.nb, L.eb] w0 w2 := hO1.trans (only_grown hg2 (by simp))
        clear hF1
        go_wp2
        go_ret
        exact ⟨rfl, h2, fun _ => hO2, hO2.upto (fun k hk _ => hk) (fun k hk => .inl hk)⟩
      | false =>
        simp only [hf] at hF
        simp only [if_false, Bool.false_eq_true]
        go_enter Try.func13, Try.ntmps13
        go_wp2_with fail
        refine hB.mono ?_
        rintro e w0 ⟨rfl, rfl⟩
        go_wp2_with fail
        refine hst.mono ?_
        rintro e w1 ⟨rfl, hP1, hg1⟩
        have h1 := h.step hP1 hg1
        have hO1 : Only [L.pb, L.mb, L.nb, L.eb] w0 w1 := only_grown hg1 (fun k e => by cases e; simp)
        have d5 := h1.chip.blk.cell 5
        simp [dcells] at d5
        have hF1 := hF w1 hP1
        clear hF hst hB c5
        go_wp2_with fail
        refine hF1.mono ?_
        rintro e w2 ⟨rfl, hg2⟩
        have h2 := h1.below' (grown_below hg2)
        have hO2 : Only [L.pb, L.mb, L.nb, L.eb] w0 w2 := hO1.trans (only_grown hg2 (by simp))
        have hfg := forget_any base w2 L S' N m n h2 ok i hi
        clear hF1
        go_wp2_with fail
        refine hfg.mono ?_
        rintro e w3 ⟨rfl, h3, hO3⟩
        have hO3' := hO2.trans (hO3.wide (by simp))
        have e8 := h3.chip.blk.cell 8
        simp [dcells, DSt.wipe] at e8
        have en := h3.chip.countAt (j := i) (show i < N.er.length by rw [ok.el]; exact hi)
        have fn := h3.chip.ers.frozen i
        have hex : N.er.getD i 0 = N.er.getD i 0 := rfl
        have her := ok.erAt hi
        have R : NDev base (w3.setCell ⟨L.eb, i, none⟩ (.int .i64 (N.er.getD i 0 + 1))) L S' ((N.wipe i 255).count i) m := by
          have hOe : Only [L.eb] w3 (w3.setCell ⟨L.eb, i, none⟩ (.int .i64 (N.er.getD i 0 + 1))) := only_setCell _ _ _ _ _ (by simp)
          obtain ⟨⟨n1, n2, n3, n4, n5, n6⟩, m1, m2, m3, m4⟩ := h.chip.ne
          obtain ⟨f, hf, hpg⟩ := h3.chip.pgs
          have hmo := h.mo
          refine ⟨h3.pow.only hOe (by simp; omega) (fun q hq => by have := hmo q hq; simp; omega), ⟨h3.chip.blk.only hOe (by simp; omega), h3.chip.nxt.only hOe (by simp; omega), h3.chip.ers.setI5 i _, ⟨f, hf.only hOe (by simp; omega), ?_⟩, h.chip.lt, h.chip.ne⟩, h.mo⟩
          have hp := hpg.only hOe (fun q hq => by simp at hq; subst hq; exact .inl h.chip.lt.2.2.2)
          exact ⟨hp.own, hp.non, hp.inj⟩
        have G := hO3'.trans (only_setCell w3 L.eb i (.int .i64 (N.er.getD i 0 + 1)) [L.pb, L.mb, L.nb, L.eb] (by simp))
        simp only [DSt.wipe] at en
        generalize N.er.getD i 0 = x at *
        clear hfg h3 h2 h1 hP1 hg1 hg2 hO3 hO3' hO2 hO1
        go_wp2
        go_ret
        exact ⟨rfl, R, fun _ => G, G.upto (fun k hk _ => hk) (fun k hk => .inl hk)⟩
    | false =>
      cases torn with
      | false =>
        simp only [if_false, Bool.false_eq_true]
        go_enter Try.func13, Try.ntmps13
        go_wp2_with fail
        refine hB.mono ?_
        rintro e w0 ⟨rfl, rfl⟩
        go_wp2_with fail
        refine hst.mono ?_
        rintro e w1 ⟨rfl, hP1, hg1⟩
        have h1 := h.step hP1 hg1
        have hO1 : Only [L.pb, L.mb, L.nb, L.eb] w0 w1 := only_grown hg1 (fun k e => by cases e; simp)
        go_wp2
        go_ret
        exact ⟨rfl, h1, fun _ => hO1, hO1.upto (fun k hk _ => hk) (fun k hk => .inl hk)⟩
      | true =>
        simp only [if_false, if_true, Bool.false_eq_true]
        go_enter Try.func13, Try.ntmps13
        go_wp2_with fail
        refine hB.mono ?_
        rintro e w0 ⟨rfl, rfl⟩
        go_wp2_with fail
        refine hst.mono ?_
        rintro e w1 ⟨rfl, hP1, hg1⟩
        have h1 := h.step hP1 hg1
        have hO1 : Only [L.pb, L.mb, L.nb, L.eb] w0 w1 := only_grown hg1 (fun k e => by cases e; simp)
        have hte := tearErase_any base w1 L S' N m (n + 1) h1 okS' (ok.more (by omega)) i hi
        clear hst hB c5
        go_wp2_with fail
        refine hte.mono ?_
        rintro e w2 ⟨rfl, h2, hO2⟩
        have hO12 := (hO1.upto (base := base) (m := [L.pb, L.mb, L.nb, L.eb]) (fun k hk _ => hk) (fun k hk => .inl hk)).trans ⟨hO2.os, hO2.tape, hO2.output, hO2.size, fun k hb hk _ => hO2.block k hb hk (by simp), fun k hk _ ht => hO2.other k hk (by simp) ht⟩
        clear hte
        go_wp2
        go_ret
        exact ⟨rfl, h2, fun e => by simp at e, hO12⟩
  · have h0' : isB N b = false := by simpa using h0
    have hE : eraseD S N b = (1, S, N) := by unfold eraseD; rw [h0']; rfl
    rw [hE]
    rw [h0'] at hB
    clear h0 h0' hE
    go_enter Try.func13, Try.ntmps13
    go_wp2_with fail
    refine hB.mono ?_
    rintro e w1 ⟨rfl, rfl⟩
    go_wp2
    go_ret
    exact ⟨rfl, h, fun _ => Only.refl _ _, OnlyB.refl _ _ _⟩
end Go.Proofs.Ythiehpofmlbehaa
