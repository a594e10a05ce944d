/-
  The walk of garretlaw02.SumSeen.
-/
import Derived.Test.YtpfhgbnnejgahaaAwake02
import Derived.OpenShut
import Derived.BigRegion
import Derived.BigQuiet
import Derived.Deep.QuietTactic
import Derived.Test.YtpfhgbnnejgahaaDrawn
namespace Go.Proofs.Ytpfhgbnnejgahaa
open Go.RowKit
set_option linter.unusedVariables false

theorem cut_n (c : Int) (n : Nat) (h : 0 < n) (hn : n ≤ 1000) : ∃ k : Nat, k < n ∧ wrap64 ((IntKind.u64.wrap c).tmod (n : Int)) = (k : Int) := by
  have h0 : 0 ≤ c % 18446744073709551616 % (n : Int) := Int.emod_nonneg _ (by omega)
  have h1 : c % 18446744073709551616 % (n : Int) < n := Int.emod_lt_of_pos _ (by omega)
  refine ⟨((c % 18446744073709551616) % (n : Int)).toNat, by omega, ?_⟩
  rw [IntKind.wrap_u64, Int.tmod_eq_emod_of_nonneg (Int.emod_nonneg _ (by omega)), IntWalk.wrap64_in _ (by omega)]
  omega

theorem xor_seen (x y : Int) (hx : 0 ≤ x ∧ x < 256) (hy : 0 ≤ y ∧ y < 256) : (0 ≤ bits .xor .u8 x y ∧ bits .xor .u8 x y < 256) ∧ (bits .xor .u8 x y = x ↔ y = 0) := by
  rw [u8_xor x y hx.1 hx.2 hy.1 hy.2]
  obtain ⟨X, rfl⟩ := Int.eq_ofNat_of_zero_le hx.1
  obtain ⟨Y, rfl⟩ := Int.eq_ofNat_of_zero_le hy.1
  have hlt : X ^^^ Y < 2 ^ 8 := Nat.xor_lt_two_pow (by omega) (by omega)
  simp only [Int.toNat_natCast]
  refine ⟨by omega, ?_⟩
  constructor
  · intro h
    have h1 : X ^^^ Y = X := by omega
    have h2 : X ^^^ (X ^^^ Y) = 0 := by rw [h1, Nat.xor_self]
    rw [← Nat.xor_assoc, Nat.xor_self, Nat.zero_xor] at h2
    omega
  · intro h
    have : Y = 0 := by omega
    subst this
    simp

set_option maxHeartbeats 2000000 in
set_option maxRecDepth 100000 in
theorem SumSeen_walk (bv0 : Value) (xs : List Int) (pos other sub : Int) (w : World) (w0 : IRow .u8 w bv0 xs) (w1 : (Lit.int .i64 pos).wf = true) (w2 : (Lit.int .i64 other).wf = true) (w3 : (Lit.int .u8 sub).wf = true) :
    Calls Try.prog 4 #[bv0, .int .i64 pos, .int .i64 other, .int .u8 sub] w fun e w' => e = .returned (.bool true) ∧ Below w.heap.size w w' := by
  have hx := w0.bytes
  have hxm := hx.len
  unfold maxLen at hxm
  by_cases hbig : xs.length < 2 ∨ 200 < xs.length
  · obtain ⟨ao, acap, hav⟩ := hx.of_len
    subst hav
    clear w0 hx
    generalize xs.length = n at *
    by_cases h1 : (n : Int) < 2
    · clear hbig
      go_enter Try.func4, Try.ntmps4
      go_wp2_with fail
      refine (awake_any _).mono ?_
      rintro e w5 ⟨rfl, hb5⟩
      go_wp2
      go_ret
      exact ⟨rfl, hb5⟩
    · have h2 : (200 : Int) < n := by omega
      clear hbig
      go_enter Try.func4, Try.ntmps4
      go_wp2_with fail
      refine (awake_any _).mono ?_
      rintro e w5 ⟨rfl, hb5⟩
      go_wp2
      go_ret
      exact ⟨rfl, hb5⟩
  · have h1 : (2 : Int) ≤ xs.length := by omega
    have h2 : (xs.length : Int) ≤ 200 := by omega
    obtain ⟨bl, off, cap, hav, hlc, hbl, hc⟩ := hx.at (by intro e; rw [e] at h1; simp at h1)
    subst hav
    have hby := hx.bys
    have hs := wf_u8 w3
    obtain ⟨i, hi, hI⟩ := cut_n pos xs.length (by omega) (by omega)
    obtain ⟨k, hk, hK⟩ := cut_n other xs.length (by omega) (by omega)
    have hci := hc i hi
    have hck := hc k hk
    generalize hn : xs.length = n at *
    clear w0 w1 w2 w3 hbig hc
    have HI := hide (hI)
    have HK := hide (hK)
    clear hI hK
    go_enter Try.func4, Try.ntmps4
    go_wp2_with fail
    go_quiet (fail)
    rw [HI.out, HK.out]
    have hb0 : Below w.heap.size w (w.drewN nq) := below_drewN (Below.refl _ _) nq
    have hra := hx.below hb0
    have hcia := (hb0.cell (p := ⟨bl, off + i, none⟩) hbl).trans hci
    have hcka := (hb0.cell (p := ⟨bl, off + k, none⟩) hbl).trans hck
    generalize w.drewN nq = wa at *
    clear hci hck HI HK hx
    go_wp2_with (at_builtin; refine wpList_append_row rfl _ _ rfl wa.heap.size _ _ [] xs rfl (Own.nil _ _) rfl hra (by simp; omega) (Nat.le_refl _) ?_)
    intro v1 wb hob hgb
    have hbb : Below wa.heap.size wa wb := (Own.nil wa.heap.size wa).grown_below (Below.refl _ _) hgb (Nat.le_refl _) (Nat.le_refl _)
    obtain ⟨gx, cx, hvx, hgx0, hgx, hcx⟩ := hob.form (by omega)
    rw [hn] at hvx hcx
    subst hvx
    have xci := hob.cellAt hn i hi
    have xfi := hob.frozenAt hn i
    have hrb := hra.below hbb
    have hi' : (i : Int) < n := by omega
    have hk' : (k : Int) < n := by omega
    have HOB := hide (hob)
    obtain ⟨xi, hxi⟩ : ∃ z, z = xs.getD i 0 := ⟨_, rfl⟩
    rw [← hxi] at xci hcia
    have HXI := hide (hxi)
    have hxir : 0 ≤ xi ∧ xi < 256 := hxi ▸ hby.at i
    obtain ⟨hyr, hyi⟩ := xor_seen xi sub hxir hs
    obtain ⟨yx, hyx⟩ : ∃ z, bits .xor .u8 xi sub = z := ⟨_, rfl⟩
    rw [hyx] at hyr hyi
    have HYI := hide (hyi)
    have hox := hob.stored hn i yx hyr
    have hbx : Below wa.heap.size wa (wb.setCell ⟨gx, i, none⟩ (.int .u8 yx)) := hbb.setCell hgx0 _
    have hrx := hra.below hbx
    have hcix := (hbx.cell (p := ⟨bl, off + i, none⟩) (Nat.lt_of_lt_of_le hbl hb0.size)).trans hcia
    have hckx := (hbx.cell (p := ⟨bl, off + k, none⟩) (Nat.lt_of_lt_of_le hbl hb0.size)).trans hcka
    have hsx : (wb.setCell ⟨gx, i, none⟩ (.int .u8 yx)).heap.size = wb.heap.size := by simp
    have HOX := hide (hox)
    have HSZX := hide hsx
    clear hob hgb hxi hyi hra hrb hcia hcka hox hsx
    go_wp2_with (at_builtin; refine wpList_append_row rfl _ _ rfl wb.heap.size _ _ [] xs rfl (Own.nil _ _) rfl hrx (by simp; omega) (by rw [HSZX.out]; exact Nat.le_refl _) ?_)
    generalize hwx : wb.setCell ⟨gx, i, none⟩ (.int .u8 yx) = wx at *
    clear hwx xci xfi
    intro v2 wc hoc hgc
    rw [← HSZX.out] at hoc
    have hbc : Below wx.heap.size wx wc := (Own.nil wx.heap.size wx).grown_below (Below.refl _ _) hgc (Nat.le_refl _) (Nat.le_refl _)
    obtain ⟨gy, cy, hvy, hgy0, hgy, hcy⟩ := hoc.form (by omega)
    rw [hn] at hvy hcy
    subst hvy
    obtain ⟨xk, hxk⟩ : ∃ z, z = xs.getD k 0 := ⟨_, rfl⟩
    have hxkr : 0 ≤ xk ∧ xk < 256 := hxk ▸ hby.at k
    have HXK := hide (hxk)
    have yci := hoc.cellAt hn i hi
    have yck := hoc.cellAt hn k hk
    have yfi := hoc.frozenAt hn i
    have yfk := hoc.frozenAt hn k
    rw [← HXI.out] at yci
    rw [← hxk] at yck hckx
    have HOC := hide (hoc)
    clear hoc hgc hxk
    go_wp2_with (fail)
    by_cases hik : i = k
    · subst hik
      have hkx : xi = xk := HXI.out.trans HXK.out.symm
      subst hkx
      go_region
      have hoy := (HOC.out.stored hn i xi hxir).stored (by rw [List.length_set]; exact hn) i xi hxir
      have hbz : Below wx.heap.size wx ((wc.setCell ⟨gy, i, none⟩ (.int .u8 xi)).setCell ⟨gy, i, none⟩ (.int .u8 xi)).drew := ((hbc.setCell hgy0 _).setCell hgy0 _).drew
      have hoz : Own wx.heap.size ((wc.setCell ⟨gy, i, none⟩ (.int .u8 xi)).setCell ⟨gy, i, none⟩ (.int .u8 xi)).drew (.slice (some ⟨gy, 0, none⟩) n cy) ((xs.set i xi).set i xi) := hoy
      generalize ((wc.setCell ⟨gy, i, none⟩ (.int .u8 xi)).setCell ⟨gy, i, none⟩ (.int .u8 xi)).drew = wz at *
      have hbw : Below w.heap.size w wz := (hb0.trans (hbx.mono hb0.size)).trans (hbz.mono (Nat.le_trans hb0.size hbx.size))
      have HRB := hide (hrx.below hbz)
      have HRX := hide ((HOX.out.kept hbz).row)
      have HRY := hide (hoz.row)
      have hA : bl < wz.heap.size := Nat.lt_of_lt_of_le hbl hbw.size
      have hciz := (hbz.cell (p := ⟨bl, off + i, none⟩) (Nat.lt_of_lt_of_le hbl (Nat.le_trans hb0.size hbx.size))).trans hcix
      have hckz := (hbz.cell (p := ⟨bl, off + i, none⟩) (Nat.lt_of_lt_of_le hbl (Nat.le_trans hb0.size hbx.size))).trans hckx
      have HS1 := hide (sumS_set i yx (by omega) hby hyr)
      have HS2 := hide (sumS_swap i i (by omega) (by omega) (by omega) hby)
      have HS3 := hide (sumS_more sub hby hs (by omega))
      obtain ⟨sx, hsx⟩ : ∃ z, sumS (xs.set i yx) = z := ⟨_, rfl⟩
      obtain ⟨sy, hsy⟩ : ∃ z, sumS ((xs.set i xi).set i xi) = z := ⟨_, rfl⟩
      obtain ⟨sb, hsb⟩ : ∃ z, sumS xs = z := ⟨_, rfl⟩
      obtain ⟨sz, hsz⟩ : ∃ z, sumS (xs ++ [sub]) = z := ⟨_, rfl⟩
      have hE1 : (sx == sb) = (sub == 0) := by
        have h := HS1.out
        rw [hsx, hsb, ← HXI.out] at h
        have h' := h.trans HYI.out
        by_cases e : sub = 0
        · rw [h'.2 e, e]; simp
        · have e2 : ¬ sx = sb := fun q => e (h'.1 q)
          rw [beq_eq_false_iff_ne.2 e, beq_eq_false_iff_ne.2 e2]
      have hE2 : (sy == sb) = true := by
        have h := HS2.out
        rw [← HXI.out] at h
        rw [hsy, hsb] at h
        rw [h.2 rfl]; simp
      have hE3 : (sz != sb) = true := by
        have h := HS3.out
        rw [hsz, hsb] at h
        simpa using h
      obtain ⟨b1, hb1⟩ : ∃ z, (sub == 0) = z := ⟨_, rfl⟩
      rw [hb1] at hE1
      have HSX := hide (hsx)
      have HSY := hide (hsy)
      have HSB := hide (hsb)
      have HSZ := hide (hsz)
      clear hsx hsy hsb hsz HS1 HS2 HS3 hoz hoy hbz hbx hbb hcix hckx hrx HOX HOC HOB hbc yci yck yfi yfk
      go_wp2_with fail
      go_region_held3 (fun w' => (w'.cell? ⟨bl, off + i, none⟩ = some (.int .u8 xi) ∧ w'.cell? ⟨bl, off + i, none⟩ = some (.int .u8 xi)) ∧ Below wz.heap.size wz w')
        (first
          | assumption
          | exact held_start hciz hckz
          | exact held_step (hb5.mono (held_size (by assumption))) hA hA (by assumption)
          | exact held_step (ho1.grown_below (Below.refl _ _) hg2 (Nat.le_refl _) (held_size (by assumption))) hA hA (by assumption)
          | exact held_step ((ho1.alloc _).grown_below (Below.refl _ _) hg2 (Nat.le_refl _) (held_size (by assumption))) hA hA (by assumption)
          | exact held_step ((Own.nil wz.heap.size _).grown_below (Below.refl _ _) hg1 (Nat.le_refl _) (held_size (by assumption))) hA hA (by assumption)
          | exact held_step ((Below.refl _ _).alloc (held_size (by assumption)) _) hA hA (by assumption))
        (first
          | (refine step_append_row (by rfl) _ _ (by rfl) wz.heap.size (.slice none 0 0) _ [] xs (by rfl) (Own.nil _ _) (by rfl) (by exact held_row HRB.out (by assumption)) (by simp; omega) (held_size (by assumption)) ?_; intro v1 w1 ho1 hg1)
          | (refine step_append_row (by rfl) _ _ (by rfl) wz.heap.size v1 _ xs [sub] (by rfl) (by first | exact ho1 | exact ho1.alloc _) (by rfl) (by first | exact row_new1 _ _ hs | exact (row_new1 _ _ hs).grown hg1 (fun k e => by cases e)) (by simp; omega) (held_size (by assumption)) ?_; intro v2 w2 ho2 hg2)
          | (go_at_call 7; refine (awake_any _).mono ?_; rintro e w5 ⟨rfl, hb5⟩)
          | (go_at_call_of 8 (Value.slice (some ⟨gx, 0, none⟩) n cx); refine (Of_any _ _ _ (by exact held_row HRX.out (by assumption))).mono ?_; rintro e w6 ⟨rfl, rfl⟩; rw [HSX.out])
          | (go_at_call_of 8 (Value.slice (some ⟨gy, 0, none⟩) n cy); refine (Of_any _ _ _ (by exact held_row HRY.out (by assumption))).mono ?_; rintro e w7 ⟨rfl, rfl⟩; rw [HSY.out])
          | (go_at_call_of 8 (Value.slice (some ⟨bl, off, none⟩) n cap); refine (Of_any _ _ _ (by exact held_row HRB.out (by assumption))).mono ?_; rintro e w8 ⟨rfl, rfl⟩; rw [HSB.out])
          | (go_at_call 8; refine (Of_any _ _ _ ho2.row).mono ?_; rintro e w9 ⟨rfl, rfl⟩; rw [HSZ.out]))
      all_goals
        go_wp2
        go_ret
        exact ⟨rfl, hbw.trans ((held_below (by assumption)).mono hbw.size)⟩
    · go_region
      have hoy := (HOC.out.stored hn i xk hxkr).stored (by rw [List.length_set]; exact hn) k xi hxir
      have hbz : Below wx.heap.size wx ((wc.setCell ⟨gy, i, none⟩ (.int .u8 xk)).setCell ⟨gy, k, none⟩ (.int .u8 xi)).drew := ((hbc.setCell hgy0 _).setCell hgy0 _).drew
      have hoz : Own wx.heap.size ((wc.setCell ⟨gy, i, none⟩ (.int .u8 xk)).setCell ⟨gy, k, none⟩ (.int .u8 xi)).drew (.slice (some ⟨gy, 0, none⟩) n cy) ((xs.set i xk).set k xi) := hoy
      generalize ((wc.setCell ⟨gy, i, none⟩ (.int .u8 xk)).setCell ⟨gy, k, none⟩ (.int .u8 xi)).drew = wz at *
      have hbw : Below w.heap.size w wz := (hb0.trans (hbx.mono hb0.size)).trans (hbz.mono (Nat.le_trans hb0.size hbx.size))
      have HRB := hide (hrx.below hbz)
      have HRX := hide ((HOX.out.kept hbz).row)
      have HRY := hide (hoz.row)
      have hA : bl < wz.heap.size := Nat.lt_of_lt_of_le hbl hbw.size
      have hciz := (hbz.cell (p := ⟨bl, off + i, none⟩) (Nat.lt_of_lt_of_le hbl (Nat.le_trans hb0.size hbx.size))).trans hcix
      have hckz := (hbz.cell (p := ⟨bl, off + k, none⟩) (Nat.lt_of_lt_of_le hbl (Nat.le_trans hb0.size hbx.size))).trans hckx
      have HS1 := hide (sumS_set i yx (by omega) hby hyr)
      have HS2 := hide (sumS_swap i k (by omega) (by omega) (by omega) hby)
      have HS3 := hide (sumS_more sub hby hs (by omega))
      obtain ⟨sx, hsx⟩ : ∃ z, sumS (xs.set i yx) = z := ⟨_, rfl⟩
      obtain ⟨sy, hsy⟩ : ∃ z, sumS ((xs.set i xk).set k xi) = z := ⟨_, rfl⟩
      obtain ⟨sb, hsb⟩ : ∃ z, sumS xs = z := ⟨_, rfl⟩
      obtain ⟨sz, hsz⟩ : ∃ z, sumS (xs ++ [sub]) = z := ⟨_, rfl⟩
      have hE1 : (sx == sb) = (sub == 0) := by
        have h := HS1.out
        rw [hsx, hsb, ← HXI.out] at h
        have h' := h.trans HYI.out
        by_cases e : sub = 0
        · rw [h'.2 e, e]; simp
        · have e2 : ¬ sx = sb := fun q => e (h'.1 q)
          rw [beq_eq_false_iff_ne.2 e, beq_eq_false_iff_ne.2 e2]
      have hE2 : (sy == sb) = (xi == xk) := by
        have h := HS2.out
        rw [← HXI.out, ← HXK.out] at h
        rw [hsy, hsb] at h
        by_cases e : xi = xk
        · rw [h.2 e, e]; simp
        · have e2 : ¬ sy = sb := fun q => e (h.1 q)
          rw [beq_eq_false_iff_ne.2 e, beq_eq_false_iff_ne.2 e2]
      have hE3 : (sz != sb) = true := by
        have h := HS3.out
        rw [hsz, hsb] at h
        simpa using h
      obtain ⟨b1, hb1⟩ : ∃ z, (sub == 0) = z := ⟨_, rfl⟩
      obtain ⟨b2, hb2⟩ : ∃ z, (xi == xk) = z := ⟨_, rfl⟩
      rw [hb1] at hE1
      rw [hb2] at hE2
      have HSX := hide (hsx)
      have HSY := hide (hsy)
      have HSB := hide (hsb)
      have HSZ := hide (hsz)
      clear hsx hsy hsb hsz HS1 HS2 HS3 hoz hoy hbz hbx hbb hcix hckx hrx HOX HOC HOB hbc yci yck yfi yfk
      go_wp2_with fail
      go_region_held3 (fun w' => (w'.cell? ⟨bl, off + i, none⟩ = some (.int .u8 xi) ∧ w'.cell? ⟨bl, off + k, none⟩ = some (.int .u8 xk)) ∧ Below wz.heap.size wz w')
        (first
          | assumption
          | exact held_start hciz hckz
          | exact held_step (hb5.mono (held_size (by assumption))) hA hA (by assumption)
          | exact held_step (ho1.grown_below (Below.refl _ _) hg2 (Nat.le_refl _) (held_size (by assumption))) hA hA (by assumption)
          | exact held_step ((ho1.alloc _).grown_below (Below.refl _ _) hg2 (Nat.le_refl _) (held_size (by assumption))) hA hA (by assumption)
          | exact held_step ((Own.nil wz.heap.size _).grown_below (Below.refl _ _) hg1 (Nat.le_refl _) (held_size (by assumption))) hA hA (by assumption)
          | exact held_step ((Below.refl _ _).alloc (held_size (by assumption)) _) hA hA (by assumption))
        (first
          | (refine step_append_row (by rfl) _ _ (by rfl) wz.heap.size (.slice none 0 0) _ [] xs (by rfl) (Own.nil _ _) (by rfl) (by exact held_row HRB.out (by assumption)) (by simp; omega) (held_size (by assumption)) ?_; intro v1 w1 ho1 hg1)
          | (refine step_append_row (by rfl) _ _ (by rfl) wz.heap.size v1 _ xs [sub] (by rfl) (by first | exact ho1 | exact ho1.alloc _) (by rfl) (by first | exact row_new1 _ _ hs | exact (row_new1 _ _ hs).grown hg1 (fun k e => by cases e)) (by simp; omega) (held_size (by assumption)) ?_; intro v2 w2 ho2 hg2)
          | (go_at_call 7; refine (awake_any _).mono ?_; rintro e w5 ⟨rfl, hb5⟩)
          | (go_at_call_of 8 (Value.slice (some ⟨gx, 0, none⟩) n cx); refine (Of_any _ _ _ (by exact held_row HRX.out (by assumption))).mono ?_; rintro e w6 ⟨rfl, rfl⟩; rw [HSX.out])
          | (go_at_call_of 8 (Value.slice (some ⟨gy, 0, none⟩) n cy); refine (Of_any _ _ _ (by exact held_row HRY.out (by assumption))).mono ?_; rintro e w7 ⟨rfl, rfl⟩; rw [HSY.out])
          | (go_at_call_of 8 (Value.slice (some ⟨bl, off, none⟩) n cap); refine (Of_any _ _ _ (by exact held_row HRB.out (by assumption))).mono ?_; rintro e w8 ⟨rfl, rfl⟩; rw [HSB.out])
          | (go_at_call 8; refine (Of_any _ _ _ ho2.row).mono ?_; rintro e w9 ⟨rfl, rfl⟩; rw [HSZ.out]))
      all_goals
        go_wp2
        go_ret
        exact ⟨rfl, hbw.trans ((held_below (by assumption)).mono hbw.size)⟩
end Go.Proofs.Ytpfhgbnnejgahaa
