/-
  The walk of garretlaw06.TagBounds.
-/
import Derived.Test.YtfacmeblldljdaaAwake06
import Derived.OpenShut
namespace Go.Proofs.Ytfacmeblldljdaa
open Go.RowKit
set_option linter.unusedVariables false

theorem writeS_err (a b s : Int) : (writeS a b s).2 = if inNum a && inNum b then 0 else 1 := by unfold writeS; split <;> rfl
theorem readS_short {xs : List Int} (h : ¬ xs.length = 16) : readS xs = ((0, 0, 0), 3) := by unfold readS; rw [if_pos h]

set_option maxHeartbeats 2000000 in
theorem TagBounds_walk (a b : Int) (bv0 : Value) (xs : List Int) (w : World) (w0 : (Lit.int .i64 a).wf = true) (w1 : (Lit.int .i64 b).wf = true) (w2 : IRow .u8 w bv0 xs) :
    Calls Try.prog 5 #[.int .i64 a, .int .i64 b, bv0] w fun e w' => e = .returned (.bool true) ∧ Below w.heap.size w w' := by
  have hr := w2.bytes
  obtain ⟨ao, cap, hv⟩ := hr.of_len
  by_cases hbig : (100 : Int) < xs.length
  · subst hv
    generalize xs.length = n at *
    clear w2 hr
    go_enter Try.func5, Try.ntmps5
    go_wp2_with fail
    refine (awake_any _).mono ?_
    rintro e w5 ⟨rfl, hb5⟩
    go_wp2
    go_ret
    exact ⟨rfl, hb5⟩
  · have hlen : (xs.length : Int) ≤ 100 := by omega
    have hrd : xs.length = 16 ∨ (¬ xs.length = 16 ∧ (readS xs).2 = 3) := by
      by_cases h : xs.length = 16
      · exact .inl h
      · exact .inr ⟨h, by rw [readS_short h]⟩
    have HR := hide hr
    have HRD := hide hrd
    obtain ⟨t, ht⟩ : ∃ t, readS xs = t := ⟨_, rfl⟩
    obtain ⟨⟨t0, t1, t2⟩, t3⟩ := t
    have HT := hide ht
    subst hv
    generalize hn : xs.length = n at *
    have HW := hide (writeS_err a b 0)
    clear w2 hr hrd ht
    have hcases : (0 ≤ a ∧ a < 2147483648 ∧ 0 ≤ b ∧ b < 2147483648 ∧ (writeS a b 0).2 = 0) ∨ (a < 0 ∧ (writeS a b 0).2 = 1) ∨ (0 ≤ a ∧ ¬ a < 2147483648 ∧ (writeS a b 0).2 = 1) ∨ (0 ≤ a ∧ a < 2147483648 ∧ b < 0 ∧ (writeS a b 0).2 = 1) ∨ (0 ≤ a ∧ a < 2147483648 ∧ 0 ≤ b ∧ ¬ b < 2147483648 ∧ (writeS a b 0).2 = 1) := by
      rw [HW.out]
      by_cases h0 : 0 ≤ a
      · by_cases h1 : a < 2147483648
        · rw [inNum_yes h0 (by omega)]
          by_cases h2 : 0 ≤ b
          · by_cases h3 : b < 2147483648
            · rw [inNum_yes h2 (by omega)]; exact .inl ⟨h0, h1, h2, h3, rfl⟩
            · rw [inNum_big (v := b) (by omega)]; exact .inr (.inr (.inr (.inr ⟨h0, h1, h2, h3, rfl⟩)))
          · rw [inNum_neg h2]; exact .inr (.inr (.inr (.inl ⟨h0, h1, by omega, rfl⟩)))
        · rw [inNum_big (v := a) (by omega)]; exact .inr (.inr (.inl ⟨h0, h1, rfl⟩))
      · rw [inNum_neg h0]; exact .inr (.inl ⟨by omega, rfl⟩)
    clear HW
    go_enter Try.func5, Try.ntmps5
    go_wp2_with fail
    refine (Write_any w a b 0 (by omega)).mono ?_
    rintro e w3 ⟨u, rfl, ho3, hb3⟩
    clear ho3
    have HR3 := hide (HR.out.below hb3)
    obtain ⟨er, her⟩ : ∃ z, (writeS a b 0).2 = z := ⟨_, rfl⟩
    rw [her] at hcases ⊢
    clear her HR
    rcases hcases with ⟨h0, h1, h2, h3, rfl⟩ | ⟨h0, rfl⟩ | ⟨h0, h1, rfl⟩ | ⟨h0, h1, h2, rfl⟩ | ⟨h0, h1, h2, h3, rfl⟩
    all_goals
      go_wp2_with fail
      refine (Read_any w3 _ xs HR3.out).mono ?_
      rintro e w4 ⟨rfl, hb4⟩
      rw [HT.out]
      have hB4 : Below w.heap.size w w4 := hb3.trans (hb4.mono hb3.size)
      have hB5 : Below w.heap.size w (w4.alloc (.cells (tcells t0 t1 t2) 25)) := hB4.alloc hB4.size _
      unfold tcells at hB5 ⊢
      go_wp2_with fail
      refine (awake_any _).mono ?_
      rintro e w5 ⟨rfl, hb5⟩
      have hB6 : Below w.heap.size w w5 := hB5.trans (hb5.mono hB5.size)
      rcases HRD.out with hl | ⟨hl, h3'⟩
      · obtain rfl : n = 16 := hl
        go_wp2
        go_ret
        first | exact ⟨rfl, hB6⟩ | exact ⟨ret_one (show Value.bool (!decide (b < 2147483648)) = Value.bool true from by rw [decide_eq_false (by omega)]; rfl), hB6⟩
      · have hl' : ¬ (n : Int) = 16 := by omega
        rw [HT.out] at h3'
        obtain rfl : t3 = 3 := h3'
        go_wp2
        go_ret
        first | exact ⟨rfl, hB6⟩ | exact ⟨ret_one (show Value.bool (!decide (b < 2147483648)) = Value.bool true from by rw [decide_eq_false (by omega)]; rfl), hB6⟩
end Go.Proofs.Ytfacmeblldljdaa
