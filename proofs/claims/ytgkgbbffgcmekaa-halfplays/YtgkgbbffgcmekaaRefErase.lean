/-
  The document's own chip: a sector is erased.
-/
import Derived.Test.YtgkgbbffgcmekaaRefProg
namespace Go.Proofs.Ytgkgbbffgcmekaa
open Go.RowKit
set_option linter.unusedVariables false
set_option maxRecDepth 100000

theorem fill_succ (bs : List Int) (p : Nat) (m : Int) (n : Nat) : fill bs p m (n + 1) = (fill bs p m n).set (p + n) (bits .or .u8 ((fill bs p m n).getD (p + n) 0) m) := rfl
theorem RDev.bytesEq {base : Nat} {w : World} {L : Lay} {S : PSt} {A B : Nat} {c d e' : Int} {er xs ys : List Int} (h : RDev base w L S ⟨A, B, c, d, e', xs, er⟩) (e : xs = ys) : RDev base w L S ⟨A, B, c, d, e', ys, er⟩ := e ▸ h

set_option maxHeartbeats 2000000 in
theorem RErase_any (base : Nat) (w : World) (L : Lay) (S : PSt) (N : NSt) (n : Nat) (h : RDev base w L S N) (okS : S.Ok n) (ok : N.Ok n) (hn : n < 900000) (s : Int) (hsw : (Lit.int .i64 s).wf = true) :
    Calls Try.prog 40 #[.pointer (some ⟨L.c, 0, none⟩), .int .i64 s] w fun e w' =>
      e = .returned (.int .i64 (eraseA S N s).1) ∧ RDev base w' L (eraseA S N s).2.1 (eraseA S N s).2.2 ∧ Only [L.pb, L.bb, L.eb] w w' := by
  obtain ⟨A, B, gc, gd, ge, bs, er⟩ := N
  have hst := RStepN_any base w L.pb S n h.1 okS (by omega)
  have hnb := step_not_both S
  have c0 := h.2.blk.cell 0
  have c5 := h.2.blk.cell 5
  simp [ccells] at c0 c5
  have hA1 := ok.A1
  simp only at hA1
  by_cases hs : 0 ≤ s ∧ s < A
  · have hE : eraseA S ⟨A, B, gc, gd, ge, bs, er⟩ s = (if S.step.1 then (0, S.step.2.2, ⟨A, B, gc, gd, ge, fill bs (s.toNat * B) 255 B, er.set s.toNat (er.getD s.toNat 0 + 1)⟩)
     else if S.step.2.1 then (6, S.step.2.2, ⟨A, B, gc, gd, ge, fill bs (s.toNat * B) S.step.2.2.mask B, er⟩) else (6, S.step.2.2, ⟨A, B, gc, gd, ge, bs, er⟩)) := by
      unfold eraseA; rw [if_pos hs]
    obtain ⟨K, rfl⟩ := Int.eq_ofNat_of_zero_le hs.1
    have hK : K < A := by omega
    have hK2 : (K : Int) < A := by omega
    rw [Int.toNat_natCast] at hE
    have hse := ok.sector hK
    have hbig := ok.big
    have hlen := ok.len
    have hB1 := ok.B1
    have hB0 := ok.B0
    have hel := ok.el
    have hbys := ok.bys
    have hers := ok.er
    simp only at hse hbig hlen hB1 hB0 hel hbys hers
    have hm0 : (K : Int) * (B : Int) = ((K * B : Nat) : Int) := by simp
    have hm1 : ((K : Int) + 1) * (B : Int) = ((K * B + B : Nat) : Int) := by rw [Int.add_mul]; simp
    have her : 0 ≤ er.getD K 0 ∧ er.getD K 0 ≤ n := by
      have : er.getD K 0 = er[K] := by simp [List.getD, List.getElem?_eq_getElem (show K < er.length by omega)]
      rw [this]; exact hers _ (List.getElem_mem _)
    obtain ⟨⟨done, torn, S'⟩, hS'⟩ : ∃ q, S.step = q := ⟨_, rfl⟩
    rw [hS'] at hst hE hnb
    simp only at hst hE hnb
    have hF : ∀ w1 : World, RPowN base w1 L.pb S' → w.grownBy w1 (some L.pb) → RDev base w1 L S' ⟨A, B, gc, gd, ge, bs, er⟩ ∧ Only [L.pb, L.bb, L.eb] w w1 ∧ w1.cell? ⟨L.c, 1, none⟩ = some (.int .i64 B) := by
      intro w1 hP hg
      have h1 := h.step hP hg
      exact ⟨h1, only_grown hg (fun k e => by cases e; simp), (h1.2.blk.cell 1).trans rfl⟩
    have hC : ∀ (wr : World) (xs : List Int) (q : Nat), RDev base wr L S' ⟨A, B, gc, gd, ge, xs, er⟩ → q < A * B → xs.length = A * B → wr.cell? ⟨L.c, 1, none⟩ = some (.int .i64 B) ∧ wr.cell? ⟨L.c, 5, none⟩ = some (.pointer (some ⟨L.pb, 0, none⟩)) ∧ wr.cell? ⟨L.c, 6, none⟩ = some (.slice (some ⟨L.bb, 0, none⟩) (A * B) (A * B)) ∧ wr.cell? ⟨L.bb, q, none⟩ = some (.int .u8 (xs.getD q 0)) ∧ wr.frozen? ⟨L.bb, q, none⟩ = false ∧ wr.cell? ⟨L.pb, 2, none⟩ = some (.int .u8 S'.mask) := by
      intro wr xs q hd hq hx
      exact ⟨(hd.2.blk.cell 1).trans rfl, (hd.2.blk.cell 5).trans rfl, (hd.2.blk.cell 6).trans rfl, hd.2.byte (by simp only; omega), hd.2.byt.frozen _, hd.1.cells.2.1⟩
    have HF := hide hF
    have HC := hide hC
    have HFL := fun m k => fill_length bs (K * B) m k
    have HFB := fun m k => (fill_bys hbys (K * B) m k)
    clear hS' hF hC ok hers hbys okS hs
    generalize hPP : K * B = P at *
    generalize hLL : A * B = len at *
    have HM0 := hide hm0
    cases done with
    | true =>
      have ht := hnb rfl
      subst ht
      simp only [if_true] at hE
      rw [hE]
      clear hE hnb
      go_enter Try.func40, Try.ntmps40
      go_wp2_with fail
      refine hst.mono ?_
      rintro e w1 ⟨rfl, hP1, hg1⟩
      obtain ⟨h1, hO1, d1⟩ := HF.out w1 hP1 hg1
      clear hst h hP1 hg1 HF c0 c5
      go_wp2_with fail
      go_loopw [7] (fun i wr => ∃ k : Nat, k ≤ B ∧ i = .int .i64 ((P + k : Nat) : Int) ∧ RDev base wr L S' ⟨A, B, gc, gd, ge, fill bs P 255 k, er⟩ ∧ Only [L.pb, L.bb, L.eb] w wr) (fun i _ => P + B - (intOf i).toNat)
      case atStart => exact ⟨0, Nat.zero_le _, by first | rfl | (rw [HM0.out]; rfl), h1, hO1⟩
      case round =>
        clear h1 hO1 d1
        obtain ⟨k, hk, rfl, hdev, hon⟩ := hrel
        by_cases hlt : k < B
        · have hql : P + k < len := by omega
          obtain ⟨d1, d5, d6, db, df, dm⟩ := HC.out wr _ (P + k) hdev hql (by rw [HFL]; exact hlen)
          have hx := (HFB 255 k).at (P + k)
          have R := (hdev.setByte (P + k) 255).bytesEq (ys := fill bs P 255 (k + 1)) (by rw [fill_succ, or_255 hx])
          have G := hon.trans (only_setCell wr L.bb (P + k) (.int .u8 255) [L.pb, L.bb, L.eb] (by simp))
          have hql2 : P + k < P + B := by omega
          have HR := hide R
          clear R hdev hon hx
          obtain ⟨q, hq⟩ : ∃ q, P + k = q := ⟨_, rfl⟩
          rw [hq] at db df hql hql2 HR G ⊢
          generalize (fill bs P 255 k).getD q 0 = y at *
          go_wp2
          exact ⟨⟨k + 1, by omega, by rw [show P + (k + 1) = q + 1 from by omega]; go_num, HR.out, G⟩, by simp [intOf]; omega⟩
        · obtain rfl : k = B := by omega
          have hcc := HC.out wr _ P hdev (by omega) (by rw [HFL]; exact hlen)
          have d1 := hcc.1
          have d7 := (hdev.2.blk.cell 7)
          have hc := hdev.2.count (j := K) (by simp only; omega)
          have hf := hdev.2.ers.frozen K
          simp [ccells] at d7
          simp only at hc
          have R := hdev.counted K (er.getD K 0 + 1)
          have G := hon.trans (only_setCell wr L.eb K (.int .i64 (er.getD K 0 + 1)) [L.pb, L.bb, L.eb] (by simp))
          simp only at R
          generalize hx : er.getD K 0 = x at *
          have HX := hide hx
          clear hx hdev hon hcc
          go_wp2
          go_ret
          exact ⟨rfl, by rw [HX.out]; exact R, G⟩
    | false =>
      cases torn with
      | false =>
        simp only [if_false, Bool.false_eq_true] at hE
        rw [hE]
        clear hE hnb
        go_enter Try.func40, Try.ntmps40
        go_wp2_with fail
        refine hst.mono ?_
        rintro e w1 ⟨rfl, hP1, hg1⟩
        obtain ⟨h1, hO1, d1⟩ := HF.out w1 hP1 hg1
        clear hst h hP1 hg1 HF c0 c5
        go_wp2_with fail
        go_loopw [7] (fun i wr => ∃ k : Nat, k ≤ B ∧ i = .int .i64 ((P + k : Nat) : Int) ∧ wr = w1) (fun i _ => P + B - (intOf i).toNat)
        case atStart => exact ⟨0, Nat.zero_le _, by first | rfl | (rw [HM0.out]; rfl), rfl⟩
        case round =>
          obtain ⟨k, hk, rfl, rfl⟩ := hrel
          by_cases hlt : k < B
          · have hql2 : P + k < P + B := by omega
            obtain ⟨q, hq⟩ : ∃ q, P + k = q := ⟨_, rfl⟩
            rw [hq] at hql2 ⊢
            go_wp2
            exact ⟨⟨k + 1, by omega, by rw [show P + (k + 1) = q + 1 from by omega]; go_num, trivial⟩, by simp [intOf]; omega⟩
          · obtain rfl : k = B := by omega
            go_wp2
            go_ret
            exact ⟨rfl, h1, hO1⟩
      | true =>
        simp only [if_false, if_true, Bool.false_eq_true] at hE
        rw [hE]
        clear hE hnb
        go_enter Try.func40, Try.ntmps40
        go_wp2_with fail
        refine hst.mono ?_
        rintro e w1 ⟨rfl, hP1, hg1⟩
        obtain ⟨h1, hO1, d1⟩ := HF.out w1 hP1 hg1
        clear hst h hP1 hg1 HF c0 c5
        go_wp2_with fail
        go_loopw [7] (fun i wr => ∃ k : Nat, k ≤ B ∧ i = .int .i64 ((P + k : Nat) : Int) ∧ RDev base wr L S' ⟨A, B, gc, gd, ge, fill bs P S'.mask k, er⟩ ∧ Only [L.pb, L.bb, L.eb] w wr) (fun i _ => P + B - (intOf i).toNat)
        case atStart => exact ⟨0, Nat.zero_le _, by first | rfl | (rw [HM0.out]; rfl), h1, hO1⟩
        case round =>
          clear h1 hO1 d1
          obtain ⟨k, hk, rfl, hdev, hon⟩ := hrel
          by_cases hlt : k < B
          · have hql : P + k < len := by omega
            obtain ⟨d1, d5, d6, db, df, dm⟩ := HC.out wr _ (P + k) hdev hql (by rw [HFL]; exact hlen)
            have R := ((hdev.still (only_drew wr)).setByte (P + k) (bits .or .u8 ((fill bs P S'.mask k).getD (P + k) 0) S'.mask)).bytesEq (ys := fill bs P S'.mask (k + 1)) (by rw [fill_succ])
            have G := (hon.trans ((only_drew wr).wide (by simp))).trans (only_setCell wr.drew L.bb (P + k) (.int .u8 (bits .or .u8 ((fill bs P S'.mask k).getD (P + k) 0) S'.mask)) [L.pb, L.bb, L.eb] (by simp))
            have hql2 : P + k < P + B := by omega
            have HR := hide R
            clear R hdev hon
            obtain ⟨q, hq⟩ : ∃ q, P + k = q := ⟨_, rfl⟩
            rw [hq] at db df hql hql2 HR G ⊢
            generalize (fill bs P S'.mask k).getD q 0 = y at *
            have hql3 : (q : Int) < len := by omega
            go_wp2_with fail
            refine still_tail_drew 21 (by kernel_rfl) (by kernel_rfl) ?_
            simp only [List.take_succ_cons, List.take_zero, List.drop_succ_cons, List.drop_zero]
            repeat still_step
            refine wpStill_nil ?_
            go_wp2
            exact ⟨⟨k + 1, by omega, by rw [show P + (k + 1) = q + 1 from by omega]; go_num, HR.out, G⟩, by simp [intOf]; omega⟩
          · obtain rfl : k = B := by omega
            have hcc := HC.out wr _ P hdev (by omega) (by rw [HFL]; exact hlen)
            have d1 := hcc.1
            clear hcc
            go_wp2
            go_ret
            exact ⟨rfl, hdev, hon⟩
  · have hE : eraseA S ⟨A, B, gc, gd, ge, bs, er⟩ s = (1, S, ⟨A, B, gc, gd, ge, bs, er⟩) := by unfold eraseA; rw [if_neg hs]
    rw [hE]
    have hs' := of_wf_i64 hsw
    by_cases h0 : s < 0
    · go_enter Try.func40, Try.ntmps40
      go_wp2
      go_ret
      exact ⟨rfl, h, Only.refl _ _⟩
    · have h1 : (A : Int) ≤ s := by omega
      go_enter Try.func40, Try.ntmps40
      go_wp2
      go_ret
      exact ⟨rfl, h, Only.refl _ _⟩
end Go.Proofs.Ytgkgbbffgcmekaa
