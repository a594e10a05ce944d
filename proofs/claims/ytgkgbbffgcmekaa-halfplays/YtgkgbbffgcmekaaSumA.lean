/-
  The contracts of package sum: Of, Ok.
-/
import Derived.Test.YtgkgbbffgcmekaaMem2
import Derived.Test.YtgkgbbffgcmekaaSumPlain
namespace Go.Proofs.Ytgkgbbffgcmekaa
open Go.RowKit
set_option linter.unusedVariables false

theorem take_one_more {xs : List Int} {k : Nat} (h : k < xs.length) : xs.take (k + 1) = xs.take k ++ [xs.getD k 0] := by
  rw [List.take_succ_eq_append_getElem h]; simp [List.getD, List.getElem?_eq_getElem h]

/-- The walk's own spellings of a step, and of the end. -/
theorem adl_step1 {xs : List Int} {k : Nat} (h : k < xs.length) (hb : Bys xs) {x : Int} (hx : x = xs.getD k 0) : ((adl (xs.take k)).1 + x) % 4294967296 % 65521 = (adl (xs.take (k + 1))).1 := by
  have h1 := adl_range (xs.take k)
  have h2 := hb.at k
  rw [take_one_more h, adl_snoc, hx]; unfold adlStep
  simp only
  omega
theorem adl_step2 {xs : List Int} {k : Nat} (h : k < xs.length) (hb : Bys xs) {x : Int} (hx : x = xs.getD k 0) : ((adl (xs.take k)).2 + ((adl (xs.take k)).1 + x) % 4294967296 % 65521) % 4294967296 % 65521 = (adl (xs.take (k + 1))).2 := by
  have h1 := adl_range (xs.take k)
  have h2 := hb.at k
  rw [take_one_more h, adl_snoc, hx]; unfold adlStep
  simp only
  omega
theorem or_u32_join (q p : Int) (hq : 0 ≤ q) (hq2 : q < 65536) (hp : 0 ≤ p) (hp2 : p < 65536) : bits .or .u32 (q * 65536) p = q * 65536 + p := by
  rw [u32_or _ _ (by omega) (by omega) hp (by omega)]
  obtain ⟨Q, rfl⟩ := Int.eq_ofNat_of_zero_le hq
  obtain ⟨P, rfl⟩ := Int.eq_ofNat_of_zero_le hp
  have e : ((Q : Int) * 65536).toNat = Q * 65536 := by omega
  rw [e, Int.toNat_natCast, nat_join 16 _ _ (by omega) (by omega)]
  omega
theorem sum_end (xs : List Int) : bits .or .u32 ((adl xs).2 * 65536 % 4294967296) (adl xs).1 = sumS xs := by
  have h1 := adl_range xs
  rw [Int.emod_eq_of_lt (by omega) (by omega), or_u32_join _ _ (by omega) (by omega) (by omega) (by omega)]
  rfl

set_option maxHeartbeats 400000 in
theorem Of_any (w : World) (b : Value) (xs : List Int) (h : Row w b xs) :
    Calls Try.prog 69 #[b] w fun e w' => e = .returned (.int .u32 (sumS xs)) ∧ w' = w := by
  have hlm := h.len
  unfold maxLen at hlm
  have hby := h.bys
  by_cases h0 : xs = []
  · subst h0
    obtain ⟨ao, cap, rfl⟩ := h.of_len
    simp only [List.length_nil]
    go_enter Try.func69, Try.ntmps69
    go_wp2
    refine wp_loop_rounds 1 ?_
    rw [rounds_succ]
    go_wp2
    go_ret
    exact ⟨rfl, rfl⟩
  · obtain ⟨bl, off, cap, rfl, hlc, hbl, hc⟩ := h.at h0
    generalize hL : xs.length = len at *
    go_enter Try.func69, Try.ntmps69
    go_wp2
    go_loop [3, 4, 9] (fun p q i => ∃ k : Nat, k ≤ len ∧ i = .int .i64 k ∧ p = .int .u32 (adl (xs.take k)).1 ∧ q = .int .u32 (adl (xs.take k)).2) (fun _ _ i => len - (intOf i).toNat)
    case atStart => exact ⟨0, Nat.zero_le _, rfl, rfl, rfl⟩
    case round =>
      obtain ⟨k, hk, rfl, rfl, rfl⟩ := hrel
      by_cases hlt : k < len
      · have hck := hc k hlt
        obtain ⟨x, hx⟩ : ∃ x, x = xs.getD k 0 := ⟨_, rfl⟩
        rw [← hx] at hck
        have HX : Hid (x = xs.getD k 0) := hx
        have hk' : k < xs.length := by omega
        have hxr : 0 ≤ x ∧ x < 256 := hx ▸ hby.at k
        clear hx hc
        go_wp2
        go_round
        case rel => exact ⟨k + 1, by omega, by go_num, congrArg _ (adl_step1 hk' hby HX.out), congrArg _ (adl_step2 hk' hby HX.out)⟩
        case measure => simp [intOf]; omega
      · obtain rfl : k = len := by omega
        go_wp2
        go_ret
        exact ⟨ret_one (congrArg (Value.int .u32) (by rw [sum_end, List.take_of_length_le (by omega)])), rfl⟩

end Go.Proofs.Ytgkgbbffgcmekaa
