/-
  The document's own sum (garretref01.Sum): the same plain function.
-/
import Derived.Test.YtgkgbbffgcmekaaSumA
namespace Go.Proofs.Ytgkgbbffgcmekaa
open Go.RowKit
set_option linter.unusedVariables false

theorem adl_more {xs : List Int} {k : Nat} (h : k < xs.length) {x : Int} (hx : x = xs.getD k 0) : ((adl (xs.take k)).1 + x) % 65521 = (adl (xs.take (k + 1))).1 ∧ ((adl (xs.take k)).2 + ((adl (xs.take k)).1 + x) % 65521) % 65521 = (adl (xs.take (k + 1))).2 := by
  rw [take_one_more h, adl_snoc, hx]; exact ⟨rfl, rfl⟩

set_option maxHeartbeats 400000 in
theorem RSum_any (w : World) (b : Value) (xs : List Int) (h : Row w b xs) :
    Calls Try.prog 60 #[b] w fun e w' => e = .returned (.int .u32 (sumS xs)) ∧ w' = w := by
  have hlm := h.len
  unfold maxLen at hlm
  have hby := h.bys
  by_cases h0 : xs = []
  · subst h0
    obtain ⟨ao, cap, rfl⟩ := h.of_len
    simp only [List.length_nil]
    go_enter Try.func60, Try.ntmps60
    go_wp2
    refine wp_loop_rounds 1 ?_
    rw [rounds_succ]
    go_wp2
    go_ret
    exact ⟨rfl, rfl⟩
  · obtain ⟨bl, off, cap, rfl, hlc, hbl, hc⟩ := h.at h0
    generalize hL : xs.length = len at *
    go_enter Try.func60, Try.ntmps60
    go_wp2
    go_loop [3, 4, 5] (fun p q i => ∃ k : Nat, k ≤ len ∧ i = .int .i64 k ∧ p = .int .i64 (adl (xs.take k)).1 ∧ q = .int .i64 (adl (xs.take k)).2) (fun _ _ i => len - (intOf i).toNat)
    case atStart => exact ⟨0, Nat.zero_le _, rfl, rfl, rfl⟩
    case round =>
      obtain ⟨k, hk, rfl, rfl, rfl⟩ := hrel
      have hr := adl_range (xs.take k)
      by_cases hlt : k < len
      · have hck := hc k hlt
        obtain ⟨x, hx⟩ : ∃ x, x = xs.getD k 0 := ⟨_, rfl⟩
        rw [← hx] at hck
        have HX : Hid (x = xs.getD k 0) := hx
        have hk' : k < xs.length := by omega
        have hxr : 0 ≤ x ∧ x < 256 := hx ▸ hby.at k
        clear hx hc
        go_wp2
        go_round
        case rel => exact ⟨k + 1, by omega, by go_num, congrArg _ (adl_more hk' HX.out).1, congrArg _ (adl_more hk' HX.out).2⟩
        case measure => simp [intOf]; omega
      · obtain rfl : k = len := by omega
        go_wp2
        go_ret
        exact ⟨ret_one (congrArg (Value.int .u32) (by rw [List.take_of_length_le (by omega)]; rfl)), rfl⟩
end Go.Proofs.Ytgkgbbffgcmekaa
