/-
  The contracts of package nor, the third part: sectors, geometries, a new chip.
-/
import Derived.Test.YtgkgbbffgcmekaaNorB
import Derived.Laws.MakeOwn
namespace Go.Proofs.Ytgkgbbffgcmekaa
open Go.RowKit
set_option linter.unusedVariables false
set_option maxRecDepth 100000

theorem isSector_any (base : Nat) (w : World) (L : Lay) (N : NSt) (h : Chip 70 base w L N) (hA : N.A ≤ 16) (s : Int) :
    Calls Try.prog 52 #[.pointer (some ⟨L.c, 0, none⟩), .int .i64 s] w fun e w' => e = .returned (.bool (decide (0 ≤ s ∧ s < N.A))) ∧ w' = w := by
  have c7 := h.blk.cell 7
  simp [ccells] at c7
  clear h
  generalize N.A = A at *
  by_cases h1 : 0 ≤ s
  · go_enter Try.func52, Try.ntmps52
    go_wp2
    go_ret
    exact ⟨ret_one (congrArg Value.bool (by simp [h1])), rfl⟩
  · go_enter Try.func52, Try.ntmps52
    go_wp2
    go_ret
    exact ⟨ret_one (congrArg Value.bool (by simp; omega)), rfl⟩

theorem cellsOf_any (base : Nat) (w : World) (L : Lay) (N : NSt) (n : Nat) (h : Chip 70 base w L N) (ok : N.Ok n) (s : Nat) (hs : s < N.A) :
    Calls Try.prog 55 #[.pointer (some ⟨L.c, 0, none⟩), .int .i64 s] w fun e w' => e = .returned (.slice (some ⟨L.bb, s * N.B, none⟩) N.B (N.A * N.B - s * N.B)) ∧ ∃ m, w' = w.drewN m := by
  have hbig := ok.big
  have hse := ok.sector hs
  have hB0 := ok.B0
  have hB1 := ok.B1
  have c1 := h.blk.cell 1
  have c6 := h.blk.cell 6
  simp [ccells] at c1 c6
  have hm : ((s : Int) * (N.B : Int)) = ((s * N.B : Nat) : Int) := by simp
  clear h ok
  generalize hLL : N.A * N.B = len at *
  generalize hPP : s * N.B = P at *
  generalize N.B = B at *
  go_enter Try.func55, Try.ntmps55
  go_wp2_with fail
  go_quiet (fail)
  go_wp2
  go_ret
  exact ⟨ret_one (by show Value.slice _ (P + B - P) _ = _; rw [Nat.add_sub_cancel_left]), _, rfl⟩

theorem Erases_any (base : Nat) (w : World) (L : Lay) (N : NSt) (n : Nat) (h : Chip 70 base w L N) (ok : N.Ok n) (s : Int) :
    Calls Try.prog 30 #[.pointer (some ⟨L.c, 0, none⟩), .int .i64 s] w fun e w' => e = .returned (.int .i64 (if 0 ≤ s ∧ s < N.A then N.er.getD s.toNat 0 else 0)) ∧ w' = w := by
  have hi := isSector_any base w L N h ok.A1 s
  have hel := ok.el
  have c7 := h.blk.cell 7
  simp [ccells] at c7
  by_cases hs : 0 ≤ s ∧ s < N.A
  · rw [if_pos hs]
    rw [decide_eq_true hs] at hi
    obtain ⟨K, rfl⟩ := Int.eq_ofNat_of_zero_le hs.1
    have hc := h.count (j := K) (by omega)
    rw [Int.toNat_natCast]
    generalize N.er.getD K 0 = x at *
    clear h ok hel
    generalize N.A = A at *
    obtain ⟨_, hs2⟩ := hs
    go_enter Try.func30, Try.ntmps30
    go_wp2_with fail
    refine hi.mono ?_
    rintro e w1 ⟨rfl, rfl⟩
    go_wp2
    go_ret
    exact ⟨rfl, rfl⟩
  · rw [if_neg hs]
    rw [decide_eq_false hs] at hi
    clear h ok
    go_enter Try.func30, Try.ntmps30
    go_wp2_with fail
    refine hi.mono ?_
    rintro e w1 ⟨rfl, rfl⟩
    go_wp2
    go_ret
    exact ⟨rfl, rfl⟩

theorem Dev.counted {base : Nat} {w : World} {L : Lay} {S : PSt} {N : NSt} (h : Dev base w L S N) (j : Nat) (y : Int) : Dev base (w.setCell ⟨L.eb, j, none⟩ (.int .i64 y)) L S { N with er := N.er.set j y } :=
  have hg := only_setCell w L.eb j (.int .i64 y) [L.eb] (by simp)
  ⟨h.1.kept (grown_setCell _ _ _ _) (fun k e => by cases e; exact ⟨h.2.lt.2.2.2, fun e => h.2.ne.2.2.2.2.1 e.symm⟩), h.2.blk.only hg (by simp; exact h.2.ne.2.2.1), h.2.byt.only hg (by simp; exact h.2.ne.2.2.2.2.2), h.2.ers.setI j y, h.2.lt, h.2.ne⟩
theorem Chip.same {t : TypeId} {base : Nat} {w w' : World} {L : Lay} {N : NSt} (h : Chip t base w L N) (hw : w'.heap = w.heap) : Chip t base w' L N :=
  ⟨(congrArg (·[L.c]?) hw).trans h.blk, (congrArg (·[L.bb]?) hw).trans h.byt, (congrArg (·[L.eb]?) hw).trans h.ers, h.lt, h.ne⟩
theorem Chip.drewN {t : TypeId} {base : Nat} {w : World} {L : Lay} {N : NSt} (h : Chip t base w L N) (m : Nat) : Chip t base (w.drewN m) L N :=
  h.only (only_grown (l := []) (grown_drewN _ _ none) (by simp)) (by simp) (by simp) (by simp)
theorem Dev.drewN {base : Nat} {w : World} {L : Lay} {S : PSt} {N : NSt} (h : Dev base w L S N) (m : Nat) : Dev base (w.drewN m) L S N :=
  ⟨h.1.kept (grown_drewN _ _ none) (by simp), h.2.drewN m⟩

set_option maxHeartbeats 1000000 in
theorem Erase_any (base : Nat) (w : World) (L : Lay) (S : PSt) (N : NSt) (n : Nat) (h : Dev base w L S N) (okS : S.Ok n) (ok : N.Ok n) (hn : n < 900000) (s : Int) :
    Calls Try.prog 39 #[.pointer (some ⟨L.c, 0, none⟩), .int .i64 s] w fun e w' =>
      e = .returned (.int .i64 (eraseA S N s).1) ∧ Dev base w' L (eraseA S N s).2.1 (eraseA S N s).2.2 ∧ Only [L.pb, L.bb, L.eb] w w' := by
  have hi := isSector_any base w L N h.2 ok.A1 s
  have hst := StepN_any base w L.pb S n h.1 okS (by omega)
  have hnb := step_not_both S
  have c5 := h.2.blk.cell 5
  simp [ccells] at c5
  by_cases hs : 0 ≤ s ∧ s < N.A
  · rw [decide_eq_true hs] at hi
    have hE : eraseA S N s = (if S.step.1 then (0, S.step.2.2, { N with bs := fill N.bs (s.toNat * N.B) 255 N.B, er := N.er.set s.toNat (N.er.getD s.toNat 0 + 1) })
     else if S.step.2.1 then (6, S.step.2.2, { N with bs := fill N.bs (s.toNat * N.B) S.step.2.2.mask N.B }) else (6, S.step.2.2, N)) := by
      unfold eraseA; rw [if_pos hs]
    obtain ⟨K, rfl⟩ := Int.eq_ofNat_of_zero_le hs.1
    have hK : K < N.A := by omega
    rw [Int.toNat_natCast] at hE
    have hse := ok.sector hK
    have hbig := ok.big
    have hlen := ok.len
    have hB1 := ok.B1
    have hel := ok.el
    have her : 0 ≤ N.er.getD K 0 ∧ N.er.getD K 0 ≤ n := by
      have : N.er.getD K 0 = N.er[K] := by simp [List.getD, List.getElem?_eq_getElem (show K < N.er.length by omega)]
      rw [this]; exact ok.er _ (List.getElem_mem _)
    obtain ⟨⟨done, torn, S'⟩, hS'⟩ : ∃ q, S.step = q := ⟨_, rfl⟩
    rw [hS'] at hst hE hnb
    simp only at hst hE hnb
    clear hS'
    cases done with
    | true =>
      have ht := hnb rfl
      subst ht
      simp only [if_true] at hE
      rw [hE]
      clear hE hnb
      go_enter Try.func39, Try.ntmps39
      go_wp2_with fail
      refine hi.mono ?_
      rintro e w0 ⟨rfl, rfl⟩
      go_wp2_with fail
      refine hst.mono ?_
      rintro e w1 ⟨rfl, hP1, hg1⟩
      have h1 := h.step hP1 hg1
      have hO1 : Only [L.pb, L.bb, L.eb] w0 w1 := only_grown hg1 (fun k e => by cases e; simp)
      clear hst h hP1 hg1 hi
      go_wp2_with fail
      refine (cellsOf_any base w1 L N n h1.2 ok K hK).mono ?_
      rintro e w2 ⟨rfl, m, rfl⟩
      have h2 := h1.drewN m
      clear h1
      go_wp2_with fail
      refine (setBits_any _ L.bb (K * N.B) N.B _ 255 N.bs h2.2.byt (by omega) (by omega)).mono ?_
      rintro e w3 ⟨rfl, hb3, hg3⟩
      have h3 := h2.bytes hg3 hb3
      have hO3 : Only [L.pb, L.bb, L.eb] w0 w3 := (hO1.trans (only_grown (grown_drewN _ m none) (by simp))).trans (only_grown hg3 (fun k e => by cases e; simp))
      have d7 := h3.2.blk.cell 7
      have hc := h3.2.count (j := K) (by simp only; omega)
      have hf := h3.2.ers.frozen K
      simp [ccells] at d7
      simp only at hc
      have R := h3.counted K (N.er.getD K 0 + 1)
      have G := hO3.trans (only_setCell w3 L.eb K (.int .i64 (N.er.getD K 0 + 1)) [L.pb, L.bb, L.eb] (by simp))
      generalize hx : N.er.getD K 0 = x at *
      have HX := hide hx
      clear h2 h3 hb3 hg3 hx
      go_wp2
      go_ret
      exact ⟨rfl, by rw [HX.out]; exact R, G⟩
    | false =>
      cases torn with
      | false =>
        simp only [if_false, Bool.false_eq_true] at hE
        rw [hE]
        clear hE hnb
        go_enter Try.func39, Try.ntmps39
        go_wp2_with fail
        refine hi.mono ?_
        rintro e w0 ⟨rfl, rfl⟩
        go_wp2_with fail
        refine hst.mono ?_
        rintro e w1 ⟨rfl, hP1, hg1⟩
        have h1 := h.step hP1 hg1
        have hO1 : Only [L.pb, L.bb, L.eb] w0 w1 := only_grown hg1 (fun k e => by cases e; simp)
        go_wp2
        go_ret
        exact ⟨rfl, h1, hO1⟩
      | true =>
        simp only [if_false, if_true, Bool.false_eq_true] at hE
        rw [hE]
        clear hE hnb
        go_enter Try.func39, Try.ntmps39
        go_wp2_with fail
        refine hi.mono ?_
        rintro e w0 ⟨rfl, rfl⟩
        go_wp2_with fail
        refine hst.mono ?_
        rintro e w1 ⟨rfl, hP1, hg1⟩
        have h1 := h.step hP1 hg1
        have hO1 : Only [L.pb, L.bb, L.eb] w0 w1 := only_grown hg1 (fun k e => by cases e; simp)
        have d5 := h1.2.blk.cell 5
        simp [ccells] at d5
        have hcb : L.bb ≠ L.c := fun e => h1.2.ne.2.1 e.symm
        have hend : ∀ W W' : World, Only [] w1 W → W.grownBy W' (some L.bb) → Blk W' L.bb (bv (fill N.bs (K * N.B) S'.mask N.B)).toArray 5 → Dev base W' L S' { N with bs := fill N.bs (K * N.B) S'.mask N.B } ∧ Only [L.pb, L.bb, L.eb] w0 W' := by
          intro W W' hW hg hb
          have hD : Dev base W L S' N := ⟨h1.1.only hW (by simp), h1.2.only hW (by simp) (by simp) (by simp)⟩
          exact ⟨hD.bytes hg hb, (hO1.trans (hW.wide (by simp))).trans (only_grown hg (fun k e => by cases e; simp))⟩
        have HEND := hide hend
        clear hst h hP1 hg1 hi hend
        go_wp2_with fail
        go_region_held3 (fun w' => w'.cell? ⟨L.c, 5, none⟩ = some (.pointer (some ⟨L.pb, 0, none⟩)))
          (first
            | assumption
            | exact World.grownBy.cell hg30 (by assumption) (by simp; exact fun e => hcb e.symm))
          (first
            | (go_at_call 56; refine (MaskN_any base _ L.pb S' (by exact h1.1)).mono ?_; rintro e w28 ⟨rfl, rfl⟩)
            | (go_at_call 55; refine (cellsOf_any base _ L N n (by exact h1.2.same rfl) ok K hK).mono ?_; rintro e w29 ⟨rfl, m, rfl⟩)
            | (go_at_call 33; refine (setBits_any _ L.bb (K * N.B) N.B _ S'.mask N.bs (by exact h1.2.byt) (by omega) (by omega)).mono ?_; rintro e w30 ⟨rfl, hb30, hg30⟩))
        all_goals go_wp2
        all_goals go_ret
        all_goals exact ⟨rfl, HEND.out _ _ (only_grown (grown_drewN w1 _ none) (by simp)) hg30 hb30⟩
  · rw [decide_eq_false hs] at hi
    have hE : eraseA S N s = (1, S, N) := by unfold eraseA; rw [if_neg hs]
    rw [hE]
    clear hE hs
    go_enter Try.func39, Try.ntmps39
    go_wp2_with fail
    refine hi.mono ?_
    rintro e w1 ⟨rfl, rfl⟩
    go_wp2
    go_ret
    exact ⟨rfl, h, Only.refl _ _⟩

theorem within_any (w : World) (n l m : Int) : Calls Try.prog 53 #[.int .i64 n, .int .i64 l, .int .i64 m] w fun e w' => e = .returned (.bool (decide (l ≤ n ∧ n ≤ m))) ∧ w' = w := by
  by_cases h : l ≤ n
  · go_enter Try.func53, Try.ntmps53
    go_wp2
    go_ret
    exact ⟨ret_one (congrArg Value.bool (by simp [h])), rfl⟩
  · go_enter Try.func53, Try.ntmps53
    go_wp2
    go_ret
    exact ⟨ret_one (congrArg Value.bool (by simp; omega)), rfl⟩

def gcells (a b c d e : Int) : Array Value := #[.int .i64 a, .int .i64 b, .int .i64 c, .int .i64 d, .int .i64 e]
def rightS (a b c d e : Int) : Bool := decide (a % 2 = 0) && (decide (2 ≤ a ∧ a ≤ 16) && (decide (256 ≤ b ∧ b ≤ 4096) && (decide (4 ≤ c ∧ c ≤ 64) && (decide (2 ≤ d ∧ d ≤ 32) && decide (16 ≤ e ∧ e ≤ 256)))))

theorem Right_any (w : World) (a b c d e : Int) (ha : (Lit.int .i64 a).wf = true) : Calls Try.prog 32 #[.agg (gcells a b c d e)] w fun x w' => x = .returned (.bool (rightS a b c d e)) ∧ w' = w.alloc (.cells (gcells a b c d e) 23) := by
  have ha' := of_wf_i64 ha
  have hm : (a.tmod 2 == 0) = decide (a % 2 = 0) := by
    by_cases h : a % 2 = 0
    · have : a.tmod 2 = 0 := by have := Int.tmod_eq_zero_of_dvd (Int.dvd_of_emod_eq_zero h); exact this
      simp [h, this]
    · have : ¬ a.tmod 2 = 0 := fun e => h (Int.emod_eq_zero_of_dvd (Int.dvd_of_tmod_eq_zero e))
      simp [h, this]
  have hw := fun w n l m => within_any w n l m
  unfold rightS gcells
  go_enter Try.func32, Try.ntmps32
  go_wp2_with (go_at_call 53; refine (within_any _ _ _ _).mono ?_; rintro e w1 ⟨rfl, rfl⟩)
  all_goals go_ret
  all_goals exact ⟨ret_one (congrArg Value.bool (by simp [*])), rfl⟩
end Go.Proofs.Ytgkgbbffgcmekaa
