/-
  The walk of EntriesFull.
-/
import Derived.Test.YtjmdinfdnjbcoaaAwake11
import Derived.Test.YtjmdinfdnjbcoaaEntFullP
import Derived.Test.YtjmdinfdnjbcoaaIntsI
namespace Go.Proofs.Ytjmdinfdnjbcoaa
open Go.RowKit
set_option linter.unusedVariables false
set_option linter.unusedSimpArgs false
set_option maxRecDepth 100000

theorem wf_five (s : ByteArray) (h : s.size ≤ 100) : (⟨s, 5⟩ : En).Wf := ⟨by unfold maxLen; dsimp only; omega, wf_i64 (by simp) (by simp)⟩
theorem wf_nil (s : ByteArray) (h : s.size ≤ 100) : (⟨s, 0⟩ : En).Wf := ⟨by unfold maxLen; dsimp only; omega, wf_i64 (by simp) (by simp)⟩
/-- 'min(x, y)', guarded or not. -/
theorem wpList_min_run {P : Program} {w : World} {ops : Array Oper} {rest : List Oper} {o : Oper} {a : Act} {Q : Exit → Act → World → Prop} (hw : Region.wanted o (yielded ops a.tmps) = true) (x y : Operand) (t t' : TypeId)
    (ho : o.op = .call { callee := .builtin .min, args := #[x, y], argTypes := #[t, t'] }) (p q : Int) (hx : a.eval x = .int .i64 p) (hy : a.eval y = .int .i64 q) (m : Int) (hm : (if q < p then q else p) = m)
    (h : wpList P ops Q rest (a.put o.dst (.int .i64 m)) w) : wpList P ops Q (o :: rest) a w := by
  refine wpList_unguard hw (wpList_plain rfl fun K hK => ?_)
  have hrun : (Builtin.min_ #[t, t'] o.type #[.int .i64 p, .int .i64 q]).run P w = .ok (.int .i64 m) w := by
    rw [← hm]
    simp only [Builtin.min_, List.foldlM, Builtin.min2]
    rfl
  unfold Oper.wp
  simp [execOp, ho, resolve, invoke, builtin, hx, hy, hrun, Result.andThen]
  exact hK _ _ h
theorem eql_ff (w : World) : (binOp .eql 4 (.bool false) (.bool false)).run Try.prog w = .ok (.bool true) w := by kernel_rfl
/-- A text of two bytes, made of a slice. -/
theorem conv_two (w : World) (k q r : Nat) (hq : q = k / 26) (hr : r = k % 26) (w' : World) (h0 : w'.cell? ⟨w.heap.size, 0, none⟩ = some (.int .u8 (97 + (q : Int)))) (h1 : w'.cell? ⟨w.heap.size, 1, none⟩ = some (.int .u8 (97 + (r : Int)))) :
    (convert 42 9 (.slice (some ⟨w.heap.size, 0, none⟩) 2 2)).run Try.prog w' = .ok (.string (fx k)) w' := by
  have := run_convert_bytes_arg (P := Try.prog) w' 42 5 Try.underlying42 Try.underlying5 w.heap.size 0 2 2 [97 + (q : Int), 97 + (r : Int)] rfl (fun j hj => by
    match j, hj with
    | 0, _ => simpa using h0
    | 1, _ => simpa using h1) 9 Try.underlying9
  rw [this]
  have e : strOfNums [97 + (q : Int), 97 + (r : Int)] = fx k := by
    subst hq hr
    unfold strOfNums fx
    simp only [List.map_cons, List.map_nil]
    rw [show (97 + ((k / 26 : Nat) : Int)).toNat = 97 + k / 26 by omega, show (97 + ((k % 26 : Nat) : Int)).toNat = 97 + k % 26 by omega]
  rw [e]

set_option maxHeartbeats 8000000 in
theorem EntriesFull_walk (n : Int) (w : World) (hn : (Lit.int .i64 n).wf = true) : Calls Try.prog 6 #[.int .i64 n] w fun e w' => e = .returned (.bool true) ∧ Below w.heap.size w w' := by
  obtain ⟨j, hj, hjw⟩ := cut_i n 4 (by omega) (by omega)
  clear hn
  go_enter Try.func6, Try.ntmps6
  go_wp2_with fail
  have hN1 : 98 ≤ 98 + j := by omega
  have hN2 : 98 + j ≤ 101 := by omega
  rw [show (98 : Int) + (j : Int) = ((98 + j : Nat) : Int) by omega]
  clear hjw hj
  generalize 98 + j = N at *
  generalize (j : Int) = jj
  go_loopw [3, 4, 5, 6] (fun v er i _ wr => ∃ (k : Nat) (X : List En) (z : Int), k ≤ N ∧ i = .int .i64 k ∧ er = .int .i64 z ∧ Hid (ERow wr v X) ∧ Hid ((k ≤ 100 ∧ X = fullE k ∧ z = 0) ∨ (k = 101 ∧ X = fullE 100 ∧ z = 21)) ∧ Hid (Below w.heap.size w wr)) (fun _ _ i _ _ => N - (intOf i).toNat)
  case atStart => exact ⟨0, [], 0, Nat.zero_le _, rfl, rfl, hide (ERow.nil w), hide (.inl ⟨by omega, rfl, rfl⟩), hide (Below.refl _ _)⟩
  case round =>
    obtain ⟨k, X, z, hk, rfl, rfl, HX, HAB, HBK⟩ := hrel
    by_cases hlt : k < N
    · have hk100 : k ≤ 100 := by omega
      obtain ⟨rfl, rfl⟩ : X = fullE k ∧ z = 0 := by
        rcases HAB.out with ⟨_, h1, h2⟩ | ⟨h, _⟩
        · exact ⟨h1, h2⟩
        · omega
      have hlt' : (k : Int) < N := by omega
      obtain ⟨q, hq⟩ : ∃ q : Nat, q = k / 26 := ⟨_, rfl⟩
      obtain ⟨r, hr⟩ : ∃ r : Nat, r = k % 26 := ⟨_, rfl⟩
      have e1 : (k : Int) / 26 = q := by omega
      have e2 : (k : Int) % 26 = r := by omega
      have hq3 : q ≤ 3 := by omega
      have hr25 : r ≤ 25 := by omega
      have hB1 := kl_alloc wr (.cells #[.int .u8 (97 + (q : Int)), .int .u8 (97 + (r : Int))] 5)
      have hBl := Blk.new wr #[.int .u8 (97 + (q : Int)), .int .u8 (97 + (r : Int))] 5
      have hcv := conv_two wr k q r hq hr _ (hBl.cell 0) (hBl.cell 1)
      have HX1 := hide (HX.out.below hB1)
      have HB1 := hide (kl_step hB1 HBK.out)
      clear hq hr HAB hBl hB1
      by_cases hk1 : k < 100
      · have HK1 := hide hk1
        have HAD := hide (full_add hk1)
        clear hk1 hk100
        go_wp2_with fail
        refine (Add_any _ u3 (fullE k) (fx k) 5 HX1.out (by rw [fullE_length]; omega) (wf_five _ (show 2 ≤ 100 by omega))).mono ?_
        rintro e1 w1 ⟨y1, rfl, hy1, hb1⟩
        rw [HAD.out]
        rw [HAD.out] at hy1
        have HY1 := hide hy1.row
        have HB2 := hide (kl_step hb1 HB1.out)
        clear hy1 hb1
        go_wp2
        go_roundw
        case rel => exact ⟨k + 1, fullE (k + 1), 0, by omega, by go_num, rfl, HY1, hide (.inl ⟨by have := HK1.out; omega, rfl, rfl⟩), HB2⟩
        case measure => simp [intOf]; omega
      · have HK := hide (show k = 100 from by omega)
        have HAD : Hid (addS (fullE k) ⟨fx k, 5⟩ = ([], 21)) := by rw [HK.out]; exact hide full_big
        clear hk1
        go_wp2_with fail
        refine (Add_any _ u3 (fullE k) (fx k) 5 HX1.out (by rw [fullE_length]; omega) (wf_five _ (show 2 ≤ 100 by omega))).mono ?_
        rintro e1 w1 ⟨y1, rfl, hy1, hb1⟩
        rw [HAD.out]
        have HX2 := hide (HX1.out.below hb1)
        have HB2 := hide (kl_step hb1 HB1.out)
        clear hy1 hb1
        go_wp2
        go_roundw
        case rel => exact ⟨k + 1, fullE k, 21, by omega, by go_num, rfl, HX2, hide (.inr ⟨by rw [HK.out], by rw [HK.out], rfl⟩), HB2⟩
        case measure => simp [intOf]; omega
    · obtain rfl : k = N := by omega
      rcases (show k < 100 ∨ k = 100 ∨ 100 < k by omega) with hka | rfl | hka
      · obtain ⟨rfl, rfl⟩ : X = fullE k ∧ z = 0 := by
          rcases HAB.out with ⟨h0, h1, h2⟩ | ⟨h0, h1, h2⟩
          · exact ⟨h1, h2⟩
          · omega
        have HKA := hide hka
        have m1 : ¬ ((k : Int) = 100) := by omega
        have m2 : (k : Int) ≤ 100 := by omega
        have m4 : ((k : Int) == 100) = false := by simpa using m1
        clear HAB hlt hk hN2
        have hxl := HX.out.lenRun
        rw [fullE_length] at hxl
        have HT1 := hide (full_aa (k := k) (by omega))
        have HT2 := hide (full_dots k)
        have HT3 := hide (show (addS (fullE k) ⟨⟨#[122, 122]⟩, 5⟩).2 = 0 by rw [full_zz (by omega)]; exact if_neg (by omega))
        have HT4 := hide (full_zero k)
        go_wp2_with fail
        refine (Add_any wr u3 (fullE k) ⟨#[97, 97]⟩ 5 HX.out (by rw [fullE_length]; omega) (wf_five _ (by decide))).mono ?_
        rintro e1 w1 ⟨y1, rfl, hy1, hb1⟩
        rw [HT1.out]
        have HX1 := hide (HX.out.below hb1)
        have HB1 := hide (kl_step hb1 HBK.out)
        clear hy1 hb1
        go_wp2_with fail
        refine (Add_any w1 u3 (fullE k) ⟨#[46, 46]⟩ 5 HX1.out (by rw [fullE_length]; omega) (wf_five _ (by decide))).mono ?_
        rintro e2 w2 ⟨y2, rfl, hy2, hb2⟩
        rw [HT2.out]
        have HX2 := hide (HX1.out.below hb2)
        have HB2 := hide (kl_step hb2 HB1.out)
        clear hy2 hb2
        go_wp2_with fail
        refine (Add_any w2 u3 (fullE k) ⟨#[122, 122]⟩ 5 HX2.out (by rw [fullE_length]; omega) (wf_five _ (by decide))).mono ?_
        rintro e3 w3 ⟨y3, rfl, hy3, hb3⟩
        rw [HT3.out]
        have HX3 := hide (HX2.out.below hb3)
        have HB3 := hide (kl_step hb3 HB2.out)
        clear hy3 hb3
        go_wp2_with fail
        refine (Add_any w3 u3 (fullE k) ⟨#[122, 122]⟩ 0 HX3.out (by rw [fullE_length]; omega) (wf_nil _ (by decide))).mono ?_
        rintro e4 w4 ⟨y4, rfl, hy4, hb4⟩
        rw [HT4.out]
        have HB4 := hide (kl_step hb4 HB3.out)
        clear hy4 hb4
        go_wp2_with fail
        refine (awake_any _).mono ?_
        rintro e5 w5 ⟨rfl, hb5⟩
        have hff := eql_ff
        have HB5 := hide (kl_step hb5 HB4.out)
        clear hb5
        go_wp2_with (refine wpList_min_run (by rfl) _ _ _ _ rfl _ _ rfl rfl (k : Int) (by rw [if_neg (by omega)]) ?_)
        go_ret
        exact ⟨rfl, HB5.out⟩
      · obtain ⟨rfl, rfl⟩ : X = fullE 100 ∧ z = 0 := by
          rcases HAB.out with ⟨h0, h1, h2⟩ | ⟨h0, h1, h2⟩
          · exact ⟨h1, h2⟩
          · omega
        clear HAB hlt hk hN2
        have hxl := HX.out.lenRun
        rw [fullE_length] at hxl
        have HT1 := hide (full_aa (k := 100) (by omega))
        have HT2 := hide (full_dots 100)
        have HT3 := hide (show (addS (fullE 100) ⟨⟨#[122, 122]⟩, 5⟩).2 = 21 by rw [full_zz (by omega)]; exact rfl)
        have HT4 := hide (full_zero 100)
        go_wp2_with fail
        refine (Add_any wr u3 (fullE 100) ⟨#[97, 97]⟩ 5 HX.out (by rw [fullE_length]; omega) (wf_five _ (by decide))).mono ?_
        rintro e1 w1 ⟨y1, rfl, hy1, hb1⟩
        rw [HT1.out]
        have HX1 := hide (HX.out.below hb1)
        have HB1 := hide (kl_step hb1 HBK.out)
        clear hy1 hb1
        go_wp2_with fail
        refine (Add_any w1 u3 (fullE 100) ⟨#[46, 46]⟩ 5 HX1.out (by rw [fullE_length]; omega) (wf_five _ (by decide))).mono ?_
        rintro e2 w2 ⟨y2, rfl, hy2, hb2⟩
        rw [HT2.out]
        have HX2 := hide (HX1.out.below hb2)
        have HB2 := hide (kl_step hb2 HB1.out)
        clear hy2 hb2
        go_wp2_with fail
        refine (Add_any w2 u3 (fullE 100) ⟨#[122, 122]⟩ 5 HX2.out (by rw [fullE_length]; omega) (wf_five _ (by decide))).mono ?_
        rintro e3 w3 ⟨y3, rfl, hy3, hb3⟩
        rw [HT3.out]
        have HX3 := hide (HX2.out.below hb3)
        have HB3 := hide (kl_step hb3 HB2.out)
        clear hy3 hb3
        go_wp2_with fail
        refine (Add_any w3 u3 (fullE 100) ⟨#[122, 122]⟩ 0 HX3.out (by rw [fullE_length]; omega) (wf_nil _ (by decide))).mono ?_
        rintro e4 w4 ⟨y4, rfl, hy4, hb4⟩
        rw [HT4.out]
        have HB4 := hide (kl_step hb4 HB3.out)
        clear hy4 hb4
        go_wp2_with fail
        refine (awake_any _).mono ?_
        rintro e5 w5 ⟨rfl, hb5⟩
        have hff := eql_ff
        have HB5 := hide (kl_step hb5 HB4.out)
        clear hb5
        go_wp2_with (refine wpList_min_run (by rfl) _ _ _ _ rfl _ _ rfl rfl 100 (by rfl) ?_)
        go_ret
        exact ⟨rfl, HB5.out⟩
      · obtain ⟨rfl, rfl⟩ : X = fullE 100 ∧ z = 21 := by
          rcases HAB.out with ⟨h0, h1, h2⟩ | ⟨h0, h1, h2⟩
          · omega
          · exact ⟨h1, h2⟩
        have HKA := hide hka
        have m2 : ¬ (k : Int) ≤ 100 := by omega
        have m4 : decide ((k : Int) ≤ 100) = false := by simpa using m2
        clear HAB hlt hk hN2
        have hxl := HX.out.lenRun
        rw [fullE_length] at hxl
        have HT1 := hide (full_aa (k := 100) (by omega))
        have HT2 := hide (full_dots 100)
        have HT3 := hide (show (addS (fullE 100) ⟨⟨#[122, 122]⟩, 5⟩).2 = 21 by rw [full_zz (by omega)]; exact rfl)
        have HT4 := hide (full_zero 100)
        go_wp2_with fail
        refine (Add_any wr u3 (fullE 100) ⟨#[97, 97]⟩ 5 HX.out (by rw [fullE_length]; omega) (wf_five _ (by decide))).mono ?_
        rintro e1 w1 ⟨y1, rfl, hy1, hb1⟩
        rw [HT1.out]
        have HX1 := hide (HX.out.below hb1)
        have HB1 := hide (kl_step hb1 HBK.out)
        clear hy1 hb1
        go_wp2_with fail
        refine (Add_any w1 u3 (fullE 100) ⟨#[46, 46]⟩ 5 HX1.out (by rw [fullE_length]; omega) (wf_five _ (by decide))).mono ?_
        rintro e2 w2 ⟨y2, rfl, hy2, hb2⟩
        rw [HT2.out]
        have HX2 := hide (HX1.out.below hb2)
        have HB2 := hide (kl_step hb2 HB1.out)
        clear hy2 hb2
        go_wp2_with fail
        refine (Add_any w2 u3 (fullE 100) ⟨#[122, 122]⟩ 5 HX2.out (by rw [fullE_length]; omega) (wf_five _ (by decide))).mono ?_
        rintro e3 w3 ⟨y3, rfl, hy3, hb3⟩
        rw [HT3.out]
        have HX3 := hide (HX2.out.below hb3)
        have HB3 := hide (kl_step hb3 HB2.out)
        clear hy3 hb3
        go_wp2_with fail
        refine (Add_any w3 u3 (fullE 100) ⟨#[122, 122]⟩ 0 HX3.out (by rw [fullE_length]; omega) (wf_nil _ (by decide))).mono ?_
        rintro e4 w4 ⟨y4, rfl, hy4, hb4⟩
        rw [HT4.out]
        have HB4 := hide (kl_step hb4 HB3.out)
        clear hy4 hb4
        go_wp2_with fail
        refine (awake_any _).mono ?_
        rintro e5 w5 ⟨rfl, hb5⟩
        have hff := eql_ff
        have HB5 := hide (kl_step hb5 HB4.out)
        clear hb5
        go_wp2_with (refine wpList_min_run (by rfl) _ _ _ _ rfl _ _ rfl rfl 100 (by rw [if_pos (by omega)]) ?_)
        go_ret
        exact ⟨rfl, HB5.out⟩
end Go.Proofs.Ytjmdinfdnjbcoaa
