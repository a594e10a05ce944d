/-
  The contract of garrethelp's Same at rows of bytes, by Bytes.
-/
import Derived.Test.YtgkgbbffgcmekaaVals
namespace Go.Proofs.Ytgkgbbffgcmekaa
open Go.RowKit
set_option linter.unusedVariables false
set_option maxRecDepth 100000

theorem Still.vrow {w w' : World} {v : Value} {xs : List (List Int)} (h : Still w w') (r : VRow w v xs) : VRow w' v xs := r.below (h _)
theorem getD_eq2 {xs : List (List Int)} {k : Nat} (h : k < xs.length) : xs.getD k [] = xs[k] := by simp [List.getD, List.getElem?_eq_getElem h]
theorem take_all_eq2 {xs ys : List (List Int)} {n : Nat} (hx : xs.length = n) (hy : ys.length = n) (h : xs.take n = ys.take n) : xs = ys := by
  rw [List.take_of_length_le (by omega), List.take_of_length_le (by omega)] at h; exact h
theorem take_more2 {xs ys : List (List Int)} {k : Nat} (hx : k < xs.length) (hy : k < ys.length) (h : xs.take k = ys.take k) (e : xs.getD k [] = ys.getD k []) : xs.take (k + 1) = ys.take (k + 1) := by
  rw [List.take_succ_eq_append_getElem hx, List.take_succ_eq_append_getElem hy, h, ← getD_eq2 hx, ← getD_eq2 hy, e]

set_option maxHeartbeats 1000000 in
theorem Same2_any (w : World) (a b : Value) (xs ys : List (List Int)) (ha : VRow w a xs) (hb : VRow w b ys) :
    Calls Try.prog 27 #[a, b, .func (.func 24) #[] #[]] w fun e w' => e = .returned (.bool (decide (xs = ys))) ∧ Still w w' := by
  have hxm := ha.len
  have hym := hb.len
  unfold maxLen at hxm hym
  by_cases hn : xs.length = ys.length
  · by_cases h0 : xs.length = 0
    · have e1 : xs = [] := List.eq_nil_of_length_eq_zero h0
      have e2 : ys = [] := List.eq_nil_of_length_eq_zero (by omega)
      subst e1 e2
      obtain ⟨ao, acap, hav⟩ := ha.of_len
      obtain ⟨bo, bcap, hbv⟩ := hb.of_len
      subst hav hbv
      simp only [List.length_nil]
      go_enter Try.func27, Try.ntmps27
      go_wp2
      refine wp_loop_rounds 1 ?_
      rw [rounds_succ]
      go_wp2
      go_ret
      exact ⟨rfl, Still.refl _⟩
    · obtain ⟨ab, ao, acap, rfl, _, hab, hac⟩ := ha.at (by omega)
      obtain ⟨bb, bo, bcap, rfl, _, hbb, hbc⟩ := hb.at (by omega)
      rw [← hn]
      have HY : Hid (ys.length = xs.length) := hn.symm
      generalize hL : xs.length = len at *
      have HX : Hid (xs.length = len) := hL
      clear hn hL ha hb
      go_enter Try.func27, Try.ntmps27
      go_wp2
      go_loopw [7] (fun i wr => ∃ k : Nat, k ≤ len ∧ i = .int .i64 k ∧ xs.take k = ys.take k ∧ Still w wr) (fun i _ => len - (intOf i).toNat)
      case atStart => exact ⟨0, Nat.zero_le _, rfl, by simp, Still.refl _⟩
      case round =>
        obtain ⟨k, hk, rfl, htk, hst⟩ := hrel
        have HT : Hid (xs.take k = ys.take k) := htk
        clear htk
        by_cases hlt : k < len
        · obtain ⟨ua, hua, hra⟩ := hac k hlt
          obtain ⟨ub, hub, hrb⟩ := hbc k (by rw [HY.out]; exact hlt)
          have hA : wr.cell? ⟨ab, ao + k, none⟩ = some ua := (hst.cell _).trans hua
          have hB : wr.cell? ⟨bb, bo + k, none⟩ = some ub := (hst.cell _).trans hub
          have HRA := hide (hst.drew.row hra)
          have HRB := hide (hst.drew.row hrb)
          have hlt' : (k : Int) < len := by omega
          obtain ⟨x, hx⟩ : ∃ x, x = xs.getD k [] := ⟨_, rfl⟩
          obtain ⟨y, hy⟩ : ∃ y, y = ys.getD k [] := ⟨_, rfl⟩
          rw [← hx] at HRA
          rw [← hy] at HRB
          have HXk := hide hx
          have HYk := hide hy
          obtain ⟨aa, an, ac, rfl⟩ : ∃ a n c, ua = .slice a n c := by obtain ⟨_, _, e⟩ := hra.of_len; exact ⟨_, _, _, e⟩
          obtain ⟨ba, bn, bc, rfl⟩ : ∃ a n c, ub = .slice a n c := by obtain ⟨_, _, e⟩ := hrb.of_len; exact ⟨_, _, _, e⟩
          clear hua hub hra hrb hac hbc hx hy
          by_cases he : x = y
          · subst he
            go_wp2_with fail
            go_region_with (go_at_call 24; refine (Bytes_any _ _ _ x x HRA.out HRB.out).mono ?_; rintro e w' ⟨rfl, rfl⟩; simp only [decide_true])
            all_goals
              go_wp2
              exact ⟨⟨k + 1, by omega, by go_num, take_more2 (by rw [HX.out]; exact hlt) (by rw [HY.out]; exact hlt) HT.out (by rw [← HXk.out, ← HYk.out]), hst.drew⟩, by simp [intOf]; omega⟩
          · have HD := hide (show decide (x = y) = false by simpa using he)
            have hd : decide (xs = ys) = false := decide_eq_false (fun e => he (by rw [HXk.out, HYk.out, e]))
            have HDD := hide hd
            clear hd
            go_wp2_with fail
            go_region_with (go_at_call 24; refine (Bytes_any _ _ _ x y HRA.out HRB.out).mono ?_; rintro e w' ⟨rfl, rfl⟩; rw [HD.out])
            all_goals
              go_wp2
              go_ret
              exact ⟨ret_one (congrArg Value.bool HDD.out.symm), hst.drew⟩
        · obtain rfl : k = len := by omega
          have hd : decide (xs = ys) = true := decide_eq_true (take_all_eq2 HX.out HY.out HT.out)
          have HD : Hid (decide (xs = ys) = true) := hd
          clear hd
          go_wp2
          go_ret
          exact ⟨ret_one (congrArg Value.bool HD.out.symm), hst⟩
  · obtain ⟨ao, acap, hav⟩ := ha.of_len
    obtain ⟨bo, bcap, hbv⟩ := hb.of_len
    subst hav hbv
    have hne : ((xs.length : Int) != (ys.length : Int)) = true := by simp; omega
    have hd : decide (xs = ys) = false := decide_eq_false (fun e => hn (by rw [e]))
    rw [hd]
    clear ha hb hd
    generalize xs.length = n at *
    generalize ys.length = m at *
    go_enter Try.func27, Try.ntmps27
    go_wp2
    go_ret
    exact ⟨rfl, Still.refl _⟩
end Go.Proofs.Ytgkgbbffgcmekaa
