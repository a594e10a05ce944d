/-
  The contracts of package nor, the second half: bytes are programmed, sectors erased.
-/
import Derived.Test.YtgkgbbffgcmekaaNorA
import Derived.StillTailTactics
namespace Go.Proofs.Ytgkgbbffgcmekaa
open Go.RowKit
set_option linter.unusedVariables false
set_option maxRecDepth 100000

/-- One byte. -/
def stepB (S : PSt) (bs : List Int) (p : Nat) (x : Int) : Int × PSt × List Int :=
  if S.step.1 then (0, S.step.2.2, bs.set p x)
  else if S.step.2.1 then (6, S.step.2.2, bs.set p (bits .or .u8 x (bits .and .u8 (bs.getD p 0) S.step.2.2.mask))) else (6, S.step.2.2, bs)
theorem step_not_both (S : PSt) (h : S.step.1 = true) : S.step.2.1 = false := by
  unfold PSt.step at *
  split <;> simp_all
  split <;> simp_all

/-- A chip with its power. -/
def Dev (base : Nat) (w : World) (L : Lay) (S : PSt) (N : NSt) : Prop := PowN base w L.pb S ∧ Chip 70 base w L N
theorem Chip.setByte {t : TypeId} {base : Nat} {w : World} {L : Lay} {N : NSt} (h : Chip t base w L N) (j : Nat) (y : Int) : Chip t base (w.setCell ⟨L.bb, j, none⟩ (.int .u8 y)) L { N with bs := N.bs.set j y } :=
  have hg := only_setCell w L.bb j (.int .u8 y) [L.bb] (by simp)
  ⟨h.blk.only hg (by simp; exact h.ne.2.1), h.byt.setB j y, h.ers.only hg (by simp; exact fun e => h.ne.2.2.2.2.2 e.symm), h.lt, h.ne⟩
theorem Chip.bytes {t : TypeId} {base : Nat} {w w' : World} {L : Lay} {N : NSt} (h : Chip t base w L N) (hg : w.grownBy w' (some L.bb)) {xs : List Int} (hx : Blk w' L.bb (bv xs).toArray 5) : Chip t base w' L { N with bs := xs } :=
  have hg := only_grown (l := [L.bb]) hg (fun k e => by cases e; simp)
  ⟨h.blk.only hg (by simp; exact h.ne.2.1), hx, h.ers.only hg (by simp; exact fun e => h.ne.2.2.2.2.2 e.symm), h.lt, h.ne⟩
theorem Dev.step {base : Nat} {w w' : World} {L : Lay} {S S' : PSt} {N : NSt} (h : Dev base w L S N) (hp : PowN base w' L.pb S') (hg : w.grownBy w' (some L.pb)) : Dev base w' L S' N :=
  ⟨hp, h.2.only (only_grown (l := [L.pb]) hg (fun k e => by cases e; simp)) (by simp; exact h.2.ne.1) (by simp; exact fun e => h.2.ne.2.2.2.1 e.symm) (by simp; exact fun e => h.2.ne.2.2.2.2.1 e.symm)⟩
theorem Dev.drew {base : Nat} {w : World} {L : Lay} {S : PSt} {N : NSt} (h : Dev base w L S N) : Dev base w.drew L S N :=
  ⟨h.1.kept (grown_drew _ none) (by simp), h.2.only (only_grown (l := []) (grown_drew _ none) (by simp)) (by simp) (by simp) (by simp)⟩
theorem Dev.setByte {base : Nat} {w : World} {L : Lay} {S : PSt} {N : NSt} (h : Dev base w L S N) (j : Nat) (y : Int) : Dev base (w.setCell ⟨L.bb, j, none⟩ (.int .u8 y)) L S { N with bs := N.bs.set j y } :=
  ⟨h.1.kept (grown_setCell _ _ _ _) (fun k e => by cases e; exact ⟨h.2.lt.2.2.1, fun e => h.2.ne.2.2.2.1 e.symm⟩), h.2.setByte j y⟩
theorem Dev.bytes {base : Nat} {w w' : World} {L : Lay} {S : PSt} {N : NSt} (h : Dev base w L S N) (hg : w.grownBy w' (some L.bb)) {xs : List Int} (hx : Blk w' L.bb (bv xs).toArray 5) : Dev base w' L S { N with bs := xs } :=
  ⟨h.1.kept hg (fun k e => by cases e; exact ⟨h.2.lt.2.2.1, fun e => h.2.ne.2.2.2.1 e.symm⟩), h.2.bytes hg hx⟩

set_option maxHeartbeats 1000000 in
theorem programByte_any (base : Nat) (w : World) (L : Lay) (S : PSt) (N : NSt) (n : Nat) (h : Dev base w L S N) (okS : S.Ok n) (ok : N.Ok n) (hn : n < 900000) (p : Nat) (hp : p < N.A * N.B) (x : Int) (hx : 0 ≤ x ∧ x < 256) :
    Calls Try.prog 71 #[.pointer (some ⟨L.c, 0, none⟩), .int .i64 p, .int .u8 x] w fun e w' =>
      e = .returned (.int .i64 (stepB S N.bs p x).1) ∧ Dev base w' L (stepB S N.bs p x).2.1 { N with bs := (stepB S N.bs p x).2.2 } ∧ Only [L.pb, L.bb] w w' := by
  have hbig := ok.big
  have hlen := ok.len
  have hst := StepN_any base w L.pb S n h.1 okS (by omega)
  have hnb := step_not_both S
  have hB : stepB S N.bs p x = if S.step.1 then (0, S.step.2.2, N.bs.set p x)
    else if S.step.2.1 then (6, S.step.2.2, N.bs.set p (bits .or .u8 x (bits .and .u8 (N.bs.getD p 0) S.step.2.2.mask))) else (6, S.step.2.2, N.bs) := rfl
  generalize hy : N.bs.getD p 0 = y at hB
  have HY := hide hy
  clear hy
  obtain ⟨⟨done, torn, S'⟩, hS'⟩ : ∃ q, S.step = q := ⟨_, rfl⟩
  rw [hS'] at hst hB hnb
  simp only at hst hB hnb
  have c5 := h.2.blk.cell 5
  simp [ccells] at c5
  have hpb := h.2.lt
  clear hS'
  cases done with
  | true =>
    have ht := hnb rfl
    subst ht
    simp only [if_true] at hB
    rw [hB]
    clear hB hnb
    go_enter Try.func71, Try.ntmps71
    go_wp2_with fail
    refine hst.mono ?_
    rintro e w1 ⟨rfl, hP1, hg1⟩
    have h1 := h.step hP1 hg1
    have hO1 : Only [L.pb, L.bb] w w1 := only_grown hg1 (fun k e => by cases e; simp)
    have d5 := h1.2.blk.cell 5
    have d6 := h1.2.blk.cell 6
    have hb := h1.2.byte (j := p) (by omega)
    rw [HY.out] at hb
    have hf := h1.2.byt.frozen p
    simp only [ccells] at d5 d6
    simp at d5 d6
    clear hst c5 h hP1 hg1 ok
    have R := h1.setByte p x
    have G := hO1.trans (only_setCell w1 L.bb p (.int .u8 x) [L.pb, L.bb] (by simp))
    clear h1
    generalize hLL : N.A * N.B = len at *
    go_wp2
    go_ret
    exact ⟨rfl, R, G⟩
  | false =>
    cases torn with
    | false =>
      simp only [if_false, Bool.false_eq_true] at hB
      rw [hB]
      clear hB hnb
      go_enter Try.func71, Try.ntmps71
      go_wp2_with fail
      refine hst.mono ?_
      rintro e w1 ⟨rfl, hP1, hg1⟩
      have h1 := h.step hP1 hg1
      have hO1 : Only [L.pb, L.bb] w w1 := only_grown hg1 (fun k e => by cases e; simp)
      have d5 := h1.2.blk.cell 5
      have d6 := h1.2.blk.cell 6
      have hb := h1.2.byte (j := p) (by omega)
      rw [HY.out] at hb
      have hf := h1.2.byt.frozen p
      simp only [ccells] at d5 d6
      simp at d5 d6
      clear hst c5 h hP1 hg1 ok
      generalize hLL : N.A * N.B = len at *
      go_wp2
      go_ret
      exact ⟨rfl, h1, hO1⟩
    | true =>
      simp only [if_false, if_true, Bool.false_eq_true] at hB
      rw [hB]
      clear hB hnb
      go_enter Try.func71, Try.ntmps71
      go_wp2_with fail
      refine hst.mono ?_
      rintro e w1 ⟨rfl, hP1, hg1⟩
      have h1 := h.step hP1 hg1
      have hO1 : Only [L.pb, L.bb] w w1 := only_grown hg1 (fun k e => by cases e; simp)
      have d5 := h1.2.blk.cell 5
      have d6 := h1.2.blk.cell 6
      have hb := h1.2.byte (j := p) (by omega)
      rw [HY.out] at hb
      have hf := h1.2.byt.frozen p
      simp only [ccells] at d5 d6
      simp at d5 d6
      clear hst c5 h hP1 hg1 ok
      have hM := MaskN_any base w1.drew L.pb S' h1.drew.1
      have R := h1.drew.setByte p (bits .or .u8 x (bits .and .u8 y S'.mask))
      have G := hO1.trans ((only_grown (l := [L.pb, L.bb]) (grown_drew w1 none) (by simp)).trans (only_setCell w1.drew L.bb p (.int .u8 (bits .or .u8 x (bits .and .u8 y S'.mask))) [L.pb, L.bb] (by simp)))
      clear h1
      generalize hLL : N.A * N.B = len at *
      go_wp2_with fail
      refine wp_region_still_tail 21 (by kernel_rfl) (by kernel_rfl) ?_
      simp only [List.take_succ_cons, List.take_zero, List.drop_succ_cons, List.drop_zero]
      repeat (first | still_step | still_call hM)
      refine wpStill_nil ?_
      all_goals go_wp2
      all_goals go_ret
      all_goals exact ⟨rfl, R, G⟩

theorem sub_set_len {n : Nat} {xs : List Int} {p : Nat} {x : Int} (h : xs.length = n) : (xs.set p x).length = n := by simpa using h
theorem progS_cons (S : PSt) (bs : List Int) (p : Nat) (b : List Int) (k : Nat) (hk : k < b.length) :
    progS S bs (p + k) (b.drop k) = if S.step.1 then progS (stepB S bs (p + k) (b.getD k 0)).2.1 (stepB S bs (p + k) (b.getD k 0)).2.2 (p + (k + 1)) (b.drop (k + 1)) else stepB S bs (p + k) (b.getD k 0) := by
  rw [drop_cons hk]
  simp only [progS, stepB]
  cases S.step.1 <;> simp [Nat.add_assoc]
theorem stepB_fst (S : PSt) (bs : List Int) (p : Nat) (x : Int) : (stepB S bs p x).1 = if S.step.1 then 0 else 6 := by
  unfold stepB
  cases S.step.1 <;> cases S.step.2.1 <;> simp
theorem stepB_ok {S : PSt} {N : NSt} {n p : Nat} {x : Int} (hS : S.Ok n) (hN : N.Ok n) (hx : 0 ≤ x ∧ x < 256) : (stepB S N.bs p x).2.1.Ok (n + 1) ∧ NSt.Ok { N with bs := (stepB S N.bs p x).2.2 } (n + 1) := by
  unfold stepB
  have h1 := hS.step
  have h2 := hN.more (show n ≤ n + 1 by omega)
  split
  · exact ⟨h1, h2.bytes (by simp) (hN.bys.set _ hx)⟩
  · split
    · exact ⟨h1, h2.bytes (by simp) (hN.bys.set _ (bits_u8 _ _ _))⟩
    · exact ⟨h1, h2⟩

set_option maxHeartbeats 1000000 in
theorem Program_any (base : Nat) (w : World) (L : Lay) (S : PSt) (N : NSt) (n : Nat) (h : Dev base w L S N) (okS : S.Ok n) (ok : N.Ok n) (hn : n < 800000) (p : Int) (hp : (Lit.int .i64 p).wf = true)
    (v : Value) (b : List Int) (hv : Row w v b) (hb : b.length ≤ 65536) (hsep : 0 < b.length → ∀ vb off n cap, v = .slice (some ⟨vb, off, none⟩) n cap → vb ∉ [L.pb, L.bb]) :
    Calls Try.prog 64 #[.pointer (some ⟨L.c, 0, none⟩), .int .i64 p, v] w fun e w' =>
      e = .returned (.int .i64 (progA S N.bs p b).1) ∧ Dev base w' L (progA S N.bs p b).2.1 { N with bs := (progA S N.bs p b).2.2 } ∧ Only [L.pb, L.bb] w w' := by
  have hbig := ok.big
  have hlen := ok.len
  have hh := has_any () base w L N n h.2 ok p b.length hp (wf_i64 (by omega) (by omega))
  have c6 := h.2.blk.cell 6
  simp [ccells] at c6
  obtain ⟨ao, cap, rfl⟩ := hv.of_len
  by_cases ht : hasS N.bs.length p b.length = true
  · have hu := ht
    unfold hasS at hu
    simp at hu
    obtain ⟨P, rfl⟩ := Int.eq_ofNat_of_zero_le hu.1
    have hle : P + b.length ≤ N.A * N.B := by omega
    rw [ht] at hh
    by_cases h0 : b = []
    · subst h0
      have hA : progA S N.bs P [] = (0, S, N.bs) := by unfold progA; rw [ht]; rfl
      rw [hA]
      have hs0 := fun q cap' => setsBits_any w L.bb q 0 cap' N.bs _ [] h.2.byt hv rfl
      simp only [List.length_nil] at *
      clear hA ht hv hsep
      by_cases hP : P = N.A * N.B
      · have hs1 := hs0 0 0 (by omega) (by omega)
        subst hP
        clear hs0
        generalize N.A * N.B = len at *
        go_enter Try.func64, Try.ntmps64
        go_wp2_with fail
        refine hh.mono ?_
        rintro e w1 ⟨rfl, rfl⟩
        go_wp2_with fail
        refine hs1.mono ?_
        rintro e w2 ⟨rfl, rfl⟩
        go_wp2_with fail
        refine wp_loop_rounds 1 ?_
        rw [rounds_succ]
        go_wp2
        go_ret
        exact ⟨rfl, h, Only.refl _ _⟩
      · have hs1 := hs0 P (N.A * N.B - P) (by omega) (by omega)
        clear hs0
        generalize N.A * N.B = len at *
        go_enter Try.func64, Try.ntmps64
        go_wp2_with fail
        refine hh.mono ?_
        rintro e w1 ⟨rfl, rfl⟩
        go_wp2_with fail
        refine hs1.mono ?_
        rintro e w2 ⟨rfl, rfl⟩
        go_wp2_with fail
        refine wp_loop_rounds 1 ?_
        rw [rounds_succ]
        go_wp2
        go_ret
        exact ⟨rfl, h, Only.refl _ _⟩
    · obtain ⟨vb, off, cap', hv', hlc, hltb, hc⟩ := hv.at h0
      obtain ⟨rfl, rfl⟩ : ao = some ⟨vb, off, none⟩ ∧ cap = cap' := by simpa using hv'
      have hsep' := hsep (List.length_pos_iff.2 h0) vb off _ _ rfl
      have hbys := hv.bys
      have hpos : 0 < b.length := List.length_pos_iff.2 h0
      have hs1 := setsBits_any w L.bb P b.length (N.A * N.B - P) N.bs _ b h.2.byt hv rfl (by omega) (by omega)
      have hA : progA S N.bs P b = if sets N.bs P b then (9, S, N.bs) else progS S N.bs P b := by unfold progA; rw [ht]; simp
      by_cases hset : sets N.bs P b = true
      · rw [hset] at hs1 hA
        simp only [if_true] at hA
        rw [hA]
        clear hA ht hv hsep hset hc hv'
        generalize b.length = bl at *
        generalize hLL : N.A * N.B = len at *
        go_enter Try.func64, Try.ntmps64
        go_wp2_with fail
        refine hh.mono ?_
        rintro e w1 ⟨rfl, rfl⟩
        go_wp2_with fail
        refine hs1.mono ?_
        rintro e w2 ⟨rfl, rfl⟩
        go_wp2
        go_ret
        exact ⟨rfl, h, Only.refl _ _⟩
      · have hset' : sets N.bs P b = false := by simpa using hset
        rw [hset'] at hs1 hA
        simp only [if_false, Bool.false_eq_true] at hA
        rw [hA]
        clear hA ht hv hset hset' hv'
        generalize hbl : b.length = bl at *
        generalize hLL : N.A * N.B = len at *
        go_enter Try.func64, Try.ntmps64
        go_wp2_with fail
        refine hh.mono ?_
        rintro e w1 ⟨rfl, rfl⟩
        go_wp2_with fail
        refine hs1.mono ?_
        rintro e w2 ⟨rfl, rfl⟩
        go_wp2_with fail
        go_loopw [32] (fun i wr => ∃ k : Nat, k ≤ bl ∧ i = .int .i64 k ∧ ∃ (Sk : PSt) (bk : List Int), Sk.Ok (n + k) ∧ NSt.Ok { N with bs := bk } (n + k) ∧ progS S N.bs P b = progS Sk bk (P + k) (b.drop k) ∧ Dev base wr L Sk { N with bs := bk } ∧ Only [L.pb, L.bb] w2 wr) (fun i _ => bl - (intOf i).toNat)
        case atStart => exact ⟨0, Nat.zero_le _, rfl, S, N.bs, okS, ok, rfl, h, Only.refl _ _⟩
        case round =>
          obtain ⟨k, hk, rfl, Sk, bk, hSk, hNk, hpr, hdev, hon⟩ := hrel
          by_cases hlt : k < bl
          · have hck : wr.cell? ⟨vb, off + k, none⟩ = some (.int .u8 (b.getD k 0)) := (World.cell?_of_block (a := ⟨vb, off + k, none⟩) (hon.block vb hltb hsep')).trans (hc k hlt)
            have hx := hbys.at k
            rw [progS_cons Sk bk P b k (by omega)] at hpr
            generalize b.getD k 0 = x at *
            have hpb := programByte_any base wr L Sk { N with bs := bk } (n + k) hdev hSk hNk (by omega) (P + k) (by simp only; omega) x hx
            have hok := stepB_ok (p := P + k) hSk hNk hx
            have hfst := stepB_fst Sk bk (P + k) x
            simp only at hpb hok
            cases hd : Sk.step.1 with
            | true =>
              rw [hd] at hpr hfst
              simp only [if_true] at hpr hfst
              rw [hfst] at hpb
              have HPR := hide hpr
              clear hpr hd hfst hdev hc
              go_wp2_with fail
              refine hpb.mono ?_
              rintro e w3 ⟨rfl, hdev3, hon3⟩
              go_wp2
              exact ⟨⟨k + 1, by omega, by go_num, _, _, hok.1, hok.2, HPR.out, hdev3, hon.trans hon3⟩, by simp [intOf]; omega⟩
            | false =>
              rw [hd] at hpr hfst
              simp only [if_false, Bool.false_eq_true] at hpr hfst
              rw [hfst] at hpb
              have HPR := hide hpr
              have HF := hide hfst
              clear hpr hd hfst hdev hc
              go_wp2_with fail
              refine hpb.mono ?_
              rintro e w3 ⟨rfl, hdev3, hon3⟩
              go_wp2
              go_ret
              rw [HPR.out]
              exact ⟨by rw [HF.out]; rfl, hdev3, hon.trans hon3⟩
          · obtain rfl : k = bl := by omega
            rw [List.drop_of_length_le (by omega)] at hpr
            have HPR := hide hpr
            clear hpr
            go_wp2
            go_ret
            rw [HPR.out]
            exact ⟨rfl, hdev, hon⟩
  · have hf : hasS N.bs.length p b.length = false := by simpa using ht
    have hA : progA S N.bs p b = (1, S, N.bs) := by unfold progA; rw [hf]; rfl
    rw [hA]
    rw [hf] at hh
    clear ht hf hA hsep hv
    generalize b.length = len at *
    go_enter Try.func64, Try.ntmps64
    go_wp2_with fail
    refine hh.mono ?_
    rintro e w1 ⟨rfl, rfl⟩
    go_wp2
    go_ret
    exact ⟨rfl, h, Only.refl _ _⟩
end Go.Proofs.Ytgkgbbffgcmekaa
