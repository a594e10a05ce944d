/-
  Entries: slices.IndexFunc with above's test; above.
-/
import Derived.Test.YtjmdinfdnjbcoaaEntA
namespace Go.Proofs.Ytjmdinfdnjbcoaa
open Go.RowKit
set_option linter.unusedVariables false
set_option maxRecDepth 100000

set_option maxHeartbeats 1000000 in
theorem above1_any (w : World) (b : Nat) (s x : ByteArray) (n : Int) (hc : w.cell? ⟨b, 0, none⟩ = some (.string s)) :
    Calls Try.prog 34 #[.agg #[.string x, .int .i64 n], .pointer (some ⟨b, 0, none⟩)] w (SaysB (decide (bl s < bl x)) w) := by
  have hb : b < w.heap.size := World.block_lt_of_cell? w _ hc
  have hne : b ≠ w.heap.size := by omega
  have hB : Below w.heap.size w (w.alloc (.cells #[.string x, .int .i64 n] 24)) := kl_alloc w _
  have HC := hide (kl_cell hB hc)
  have HB := hide hB
  clear hB
  rw [← gtr_bl]
  have HC' := HC.out
  go_enter Try.func34, Try.ntmps34
  go_wp2
  go_ret
  exact ⟨rfl, HB.out⟩

theorem above_more {l : List En} {s : List UInt8} {k : Nat} (h : ∀ j, j < k → ¬ s < bl (l.getD j default).s) (h2 : ¬ s < bl (l.getD k default).s) : ∀ j, j < k + 1 → ¬ s < bl (l.getD j default).s := by
  intro j hj
  by_cases e : j = k
  · subst e; exact h2
  · exact h j (by omega)

set_option maxHeartbeats 2000000 in
theorem IndexAbove_any (w : World) (v : Value) (l : List En) (h : ERow w v l) (b : Nat) (s : ByteArray) (hc : w.cell? ⟨b, 0, none⟩ = some (.string s)) :
    Calls Try.prog 33 #[v, .func (.func 34) #[] #[.pointer (some ⟨b, 0, none⟩)]] w fun e w' =>
      e = .returned (.int .i64 (if aboveS l (bl s) < l.length then (aboveS l (bl s) : Int) else -1)) ∧ Below w.heap.size w w' := by
  have hlr := h.lenRun
  have hlm := h.len
  unfold maxLen at hlm
  have HR := hide h
  have HC := hide hc
  obtain ⟨len, hL⟩ : ∃ n, l.length = n := ⟨_, rfl⟩
  have HL := hide hL
  simp only [hL] at hlr
  rw [hL] at hlm
  have HG : Hid (∀ r : Int, ((∃ k : Nat, k < len ∧ r = k ∧ s.data.toList < bl (l.getD k default).s ∧ ∀ j, j < k → ¬ bl s < bl (l.getD j default).s) ∨ (r = -1 ∧ ∀ j, j < len → ¬ bl s < bl (l.getD j default).s)) → r = (if aboveS l (bl s) < l.length then (aboveS l (bl s) : Int) else -1)) := by
    rintro r (⟨k, hk, rfl, h1, h2⟩ | ⟨rfl, h2⟩)
    · have := above_is (l := l) (s := bl s) (k := k) (by omega) h2 (fun _ => h1)
      rw [this, if_pos (by omega)]
    · have := above_is (l := l) (s := bl s) (k := len) (by omega) h2 (fun h => by omega)
      rw [this, if_neg (by omega)]
  clear hL h hc
  generalize (if aboveS l (bl s) < l.length then (aboveS l (bl s) : Int) else -1) = R at *
  go_enter Try.func33, Try.ntmps33
  go_wp2
  go_loopw [5, 8] (fun _ i wr => ∃ k : Nat, k ≤ len ∧ i = .int .i64 k ∧ Hid (∀ j, j < k → ¬ bl s < bl (l.getD j default).s) ∧ Below w.heap.size w wr) (fun _ i _ => len - (intOf i).toNat)
  case atStart => exact ⟨0, Nat.zero_le _, rfl, hide (fun j hj => absurd hj (Nat.not_lt_zero _)), Below.refl _ _⟩
  case round =>
    obtain ⟨k, hk, rfl, HN, hbk⟩ := hrel
    by_cases hlt : k < len
    · have hlt' : (k : Int) < len := by omega
      have hkl : k < l.length := by rw [HL.out]; exact hlt
      obtain ⟨bb, o, hbs, hix, c0, c1⟩ := (HR.out.below hbk).idx k hkl
      have hm := above_more HN.out (k := k)
      have hy := fun h1 => HG.out k (.inl ⟨k, hlt, rfl, h1, HN.out⟩)
      generalize l.getD k default = x at *
      obtain ⟨xs, xn⟩ := x
      simp only at c0 c1 hm hy
      have hcl := fun W hW => above1_any W b s xs xn hW
      have HCK := hide (hbk.cell (p := ⟨b, 0, none⟩) (World.block_lt_of_cell? w _ HC.out) |>.trans HC.out)
      cases hd : decide (bl s < bl xs) with
      | true =>
        have HY := hide (hy (of_decide_eq_true hd))
        simp only [hd] at hcl
        clear hd hy hm
        go_wp2_with (go_at_call 34; refine (hcl _ HCK.out).mono ?_; rintro e w9 ⟨rfl, hb9⟩)
        have hB9 : Below w.heap.size w w9 := kl_step hb9 hbk
        clear hb9 hbk
        go_wp2
        go_ret
        exact ⟨ret_one (congrArg (Value.int .i64) HY.out), hB9⟩
      | false =>
        have HY := hide (hm (of_decide_eq_false hd))
        simp only [hd] at hcl
        clear hd hy hm
        go_wp2_with (go_at_call 34; refine (hcl _ HCK.out).mono ?_; rintro e w9 ⟨rfl, hb9⟩)
        have hB9 : Below w.heap.size w w9 := kl_step hb9 hbk
        clear hb9 hbk
        go_wp2
        exact ⟨⟨k + 1, by omega, by go_num, HY, hB9⟩, by simp [intOf]; omega⟩
    · obtain rfl : k = len := by omega
      have HY := hide (HG.out (-1) (.inr ⟨rfl, HN.out⟩))
      go_wp2
      go_ret
      exact ⟨ret_one (congrArg (Value.int .i64) HY.out), hbk⟩

set_option maxHeartbeats 2000000 in
theorem above_any (w : World) (v : Value) (l : List En) (h : ERow w v l) (s : ByteArray) :
    Calls Try.prog 24 #[v, .string s] w fun e w' => e = .returned (.int .i64 (aboveS l (bl s))) ∧ Below w.heap.size w w' := by
  have hlr := h.lenRun
  have hle := above_le l (bl s)
  have hA : Below w.heap.size w (w.alloc (.cells #[.string s] 9)) := kl_alloc w _
  have hIx := IndexAbove_any _ v l (h.below hA) w.heap.size s ((Blk.new w #[.string s] 9).cell 0)
  have HA := hide hA
  clear h hA
  generalize hk : aboveS l (bl s) = k at *
  generalize l.length = len at *
  clear hk
  by_cases hlt : k < len
  · rw [if_pos hlt] at hIx
    go_enter Try.func24, Try.ntmps24
    go_wp2_with (go_at_call 33; refine hIx.mono ?_; rintro e w9 ⟨rfl, hb9⟩)
    have hB9 : Below w.heap.size w w9 := kl_step hb9 HA.out
    go_wp2
    go_ret
    exact ⟨rfl, hB9⟩
  · rw [if_neg hlt] at hIx
    obtain rfl : k = len := by omega
    go_enter Try.func24, Try.ntmps24
    go_wp2_with (go_at_call 33; refine hIx.mono ?_; rintro e w9 ⟨rfl, hb9⟩)
    have hB9 : Below w.heap.size w w9 := kl_step hb9 HA.out
    go_wp2
    go_ret
    exact ⟨rfl, hB9⟩
end Go.Proofs.Ytjmdinfdnjbcoaa
