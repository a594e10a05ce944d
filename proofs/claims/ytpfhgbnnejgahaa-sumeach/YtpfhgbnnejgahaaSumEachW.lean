/-
  The walk of garretlaw02.SumEach.
-/
import Derived.Test.YtpfhgbnnejgahaaAwake02
import Derived.OpenShut
namespace Go.Proofs.Ytpfhgbnnejgahaa
open Go.RowKit
set_option linter.unusedVariables false

theorem each_n (n : Int) : ∃ m : Nat, m < 500 ∧ wrap64 ((IntKind.u64.wrap n).tmod 500) = (m : Int) := by
  have h0 : 0 ≤ n % 18446744073709551616 % 500 := Int.emod_nonneg _ (by omega)
  have h1 : n % 18446744073709551616 % 500 < 500 := Int.emod_lt_of_pos _ (by omega)
  refine ⟨(n % 18446744073709551616 % 500).toNat, by omega, ?_⟩
  rw [IntKind.wrap_u64, Int.tmod_eq_emod_of_nonneg (Int.emod_nonneg _ (by omega))]
  rw [IntWalk.wrap64_in _ (by omega)]
  omega

set_option maxHeartbeats 1000000 in
theorem SumEach_walk (c n : Int) (w : World) (w0 : (Lit.int .u8 c).wf = true) (w1 : (Lit.int .i64 n).wf = true) :
    Calls Try.prog 6 #[.int .u8 c, .int .i64 n] w fun e w' => e = .returned (.bool true) ∧ Below w.heap.size w w' := by
  obtain ⟨i0, hi, hz0, hz1, hz2⟩ := info_parts infoByte
  obtain ⟨m, hm, hE⟩ := each_n n
  have hc := wf_u8 w0
  go_enter Try.func6, Try.ntmps6
  have HE : Hid _ := hE
  clear hE
  go_wp2_with fail
  rw [HE.out]
  refine (awake_any _).mono ?_
  rintro e w5 ⟨rfl, hb5⟩
  go_wp2_with fail
  refine (Of_any _ _ [c] (row_new1 _ c hc)).mono ?_
  rintro e w6 ⟨rfl, rfl⟩
  rw [show sumS [c] = bits .or .u32 ((1 + c) * 65536) (1 + c) from by
    rw [or_u32_join _ _ (by omega) (by omega) (by omega) (by omega)]
    show (0 + (1 + c) % 65521) % 65521 * 65536 + (1 + c) % 65521 = _
    omega]
  generalize hs1 : bits .or .u32 ((1 + c) * 65536) (1 + c) = s1
  have hb6 : Below w.heap.size w (w5.alloc (Obj.cells #[Value.int IntKind.u8 c] 5)) := hb5.alloc hb5.size _
  generalize w5.alloc (Obj.cells #[Value.int IntKind.u8 c] 5) = w6 at *
  go_wp2_with (at_make; refine wpList_unguard rfl ?_; refine wpList_make_full _ rfl _ _ 22 rfl w6.heap.size 5 i0 (.int .u8 0) 1 Try.underlying22 hi hz0 hz1 _ _ _ _ m rfl rfl rfl rfl ?b2 ?b3 (Nat.le_refl _) ?_)
  case b2 => rw [hz2]; omega
  case b3 => unfold maxLen; omega
  intro w7 hown hgrow
  rw [show (madeCells (#[Value.int .u8 0]) m).toList = bv (List.replicate m 0) from by rw [toList_madeCells_one]; simp [bv]] at hown
  have ho : Own w6.heap.size w7 (.slice (some ⟨w6.heap.size, 0, none⟩) m m) (List.replicate m 0) := ⟨by rw [List.length_replicate]; exact hown, by intro x hx; rw [List.eq_of_mem_replicate hx]; omega⟩
  have hb7 : Below w.heap.size w w7 := hb6.grown hgrow hb6.size (fun k e => by cases e)
  go_wp2_with fail
  refine (Of_any _ _ _ ho.row).mono ?_
  rintro e w8 ⟨rfl, rfl⟩
  rw [show sumS (List.replicate m 0) = bits .or .u32 ((m : Int) * 65536) 1 from by
    rw [or_u32_join _ _ (by omega) (by omega) (by omega) (by omega)]
    unfold sumS; rw [adl_zeros]
    show (m : Int) % 65521 * 65536 + 1 = _
    omega]
  generalize hs2 : bits .or .u32 ((m : Int) * 65536) 1 = s2
  go_wp2
  go_ret
  exact ⟨rfl, hb7⟩
end Go.Proofs.Ytpfhgbnnejgahaa
