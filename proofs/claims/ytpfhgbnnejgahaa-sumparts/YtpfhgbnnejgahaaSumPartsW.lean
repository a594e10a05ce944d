/-
  The walk of garretlaw02.SumParts.
-/
import Derived.Test.YtpfhgbnnejgahaaAwake02
import Derived.OpenShut
namespace Go.Proofs.Ytpfhgbnnejgahaa
open Go.RowKit
set_option linter.unusedVariables false

/-- The halves of a sum, in the walk's own spelling. -/
theorem sum_low (xs : List Int) : bits .and .u32 (sumS xs) 65535 = (adl xs).1 ∧ sumS xs / 65536 = (adl xs).2 := by
  have h1 := adl_range xs
  have h2 := sumS_range xs
  refine ⟨?_, by unfold sumS; omega⟩
  rw [u32_and _ _ h2.1 h2.2 (by omega) (by omega)]
  rw [show Int.toNat 65535 = 2 ^ 16 - 1 from rfl, Nat.and_two_pow_sub_one_eq_mod]
  unfold sumS at *
  omega

/-- A sum under a name of its own, with its halves. -/
theorem sum_abs (xs : List Int) : ∃ p q s, sumS xs = s ∧ bits .and .u32 s 65535 = p ∧ s / 65536 = q ∧ (0 ≤ p ∧ p < 65521) ∧ (0 ≤ q ∧ q < 65521) ∧ Hid (p = (adl xs).1) ∧ Hid (q = (adl xs).2) :=
  ⟨_, _, _, rfl, (sum_low xs).1, (sum_low xs).2, (adl_range xs).1, (adl_range xs).2, rfl, rfl⟩

set_option maxHeartbeats 1000000 in
theorem SumParts_walk (av : Value) (xs : List Int) (bv0 : Value) (ys : List Int) (w : World) (w0 : IRow .u8 w av xs) (w1 : IRow .u8 w bv0 ys) :
    Calls Try.prog 5 #[av, bv0] w fun e w' => e = .returned (.bool true) ∧ Below w.heap.size w w' := by
  have hx := w0.bytes
  have hy := w1.bytes
  obtain ⟨ao, acap, hav⟩ := hx.of_len
  obtain ⟨bo, bcap, hbv⟩ := hy.of_len
  have hxm := hx.len
  have hym := hy.len
  unfold maxLen at hxm hym
  by_cases hbig : 300 < xs.length ∨ 300 < ys.length
  · subst hav hbv
    clear w0 w1 hx hy
    generalize xs.length = n at *
    generalize ys.length = m at *
    by_cases h1 : (300 : Int) < n
    · clear hbig
      go_enter Try.func5, Try.ntmps5
      go_wp2_with fail
      refine (awake_any _).mono ?_
      rintro e w5 ⟨rfl, hb5⟩
      go_wp2
      go_ret
      exact ⟨rfl, hb5⟩
    · have h2 : (300 : Int) < m := by omega
      clear hbig
      go_enter Try.func5, Try.ntmps5
      go_wp2_with fail
      refine (awake_any _).mono ?_
      rintro e w5 ⟨rfl, hb5⟩
      go_wp2
      go_ret
      exact ⟨rfl, hb5⟩
  · have h1 : (xs.length : Int) ≤ 300 := by omega
    have h2 : (ys.length : Int) ≤ 300 := by omega
    obtain ⟨px, qx, x, hX, hpx, hqx, bpx, bqx, HPX, HQX⟩ := sum_abs xs
    obtain ⟨py, qy, y, hY, hpy, hqy, bpy, bqy, HPY, HQY⟩ := sum_abs ys
    obtain ⟨pz, qz, z, hZ, hpz, hqz, bpz, bqz, HPZ, HQZ⟩ := sum_abs (xs ++ ys)
    have HP := adl_parts xs ys
    obtain ⟨t, ht⟩ : ∃ t, t = (ys.length : Int) * (px + 65520) := ⟨_, rfl⟩
    have hP : (px + py + 65520) % 65521 = pz := by rw [HPX.out, HPY.out, HPZ.out, HP]
    have hQ : (qx + qy + t) % 65521 = qz := by rw [ht, HPX.out, HQX.out, HQY.out, HQZ.out, HP]
    have ht0 : 0 ≤ t := by rw [ht]; exact Int.mul_nonneg (by omega) (by omega)
    have ht1 : t ≤ 300 * 131041 := by rw [ht]; exact Int.mul_le_mul h2 (by omega) (by omega) (by omega)
    clear w0 w1 hbig HP HPX HPY HPZ HQX HQY HQZ
    subst hav hbv
    generalize hn : xs.length = n at *
    generalize hm : ys.length = m at *
    have ht' : (m : Int) * (px + 65520) = t := ht.symm
    have HXE : Hid (sumS xs = x) := hX
    have HYE : Hid (sumS ys = y) := hY
    have HZE : Hid (sumS (xs ++ ys) = z) := hZ
    clear ht hX hY hZ
    go_enter Try.func5, Try.ntmps5
    go_wp2_with fail
    refine (Of_any _ _ xs hx).mono ?_
    rintro e w6 ⟨rfl, rfl⟩
    rw [HXE.out]
    go_wp2_with fail
    refine (Of_any _ _ ys hy).mono ?_
    rintro e w7 ⟨rfl, rfl⟩
    rw [HYE.out]
    go_wp2_with (at_builtin; refine wpList_append_row rfl _ _ rfl w7.heap.size _ _ [] xs rfl (Own.nil _ _) rfl hx (by simp; omega) (Nat.le_refl _) ?_)
    intro v1 wb hob hgb
    have hbb : Below w7.heap.size w7 wb := (Own.nil w7.heap.size w7).grown_below (Below.refl _ _) hgb (Nat.le_refl _) (Nat.le_refl _)
    go_wp2_with (at_builtin; refine wpList_append_row rfl _ _ rfl w7.heap.size _ _ xs ys rfl hob rfl (hy.below hbb) (by omega) hbb.size ?_)
    intro v2 wc hoc hgc
    have hbc : Below w7.heap.size w7 wc := hob.grown_below hbb hgc (Nat.le_refl _) hbb.size
    go_wp2_with fail
    refine (Of_any _ _ _ hoc.row).mono ?_
    rintro e w8 ⟨rfl, rfl⟩
    rw [HZE.out]
    clear hob hoc hgb hgc hx hy
    go_wp2_with fail
    refine (awake_any _).mono ?_
    rintro e w9 ⟨rfl, hb9⟩
    go_wp2
    go_ret
    exact ⟨rfl, hbc.trans (hb9.mono hbc.size)⟩
end Go.Proofs.Ytpfhgbnnejgahaa
