/-
  PackLists: its walk.
-/
import Derived.Test.YtgkmgpjhpplkiaaPackListsB1
namespace Go.Proofs.Ytgkmgpjhpplkiaa
open Go.RowKit
set_option linter.unusedVariables false
set_option maxRecDepth 100000

theorem cntE_zero : cntE 0 = [0, 0, 0, 0] := rfl
theorem cntE_four (m : Nat) (h : m < 4294967296) : cntE m = [(m : Int) % 256, (m : Int) / 256 % 256, (m : Int) / 65536 % 256, (m : Int) / 16777216] := by
  have e : (m : Int) / 16777216 = (m : Int) / 16777216 % 256 := by omega
  rw [e]
  simp [cntE, n4, low, List.range_succ]
theorem set4 (P R : List Int) (q0 q1 q2 q3 a b c d : Int) (p : Nat) (hp : P.length = p) : ((((P ++ ([q0, q1, q2, q3] ++ R)).set p a).set (p + 1) b).set (p + 2) c).set (p + 3) d = P ++ ([a, b, c, d] ++ R) := by
  subst hp
  simp
theorem own_set4 {base : Nat} {w : World} {g n cap : Nat} {L : List Int} (h : Own base w (.slice (some ⟨g, 0, none⟩) n cap) L) (hn : L.length = n) (i : Nat) (a b c d : Int) (ha : 0 ≤ a ∧ a < 256) (hb : 0 ≤ b ∧ b < 256) (hc : 0 ≤ c ∧ c < 256) (hd : 0 ≤ d ∧ d < 256) :
    Own base ((((w.setCell ⟨g, i, none⟩ (.int .u8 a)).setCell ⟨g, i + 1, none⟩ (.int .u8 b)).setCell ⟨g, i + 2, none⟩ (.int .u8 c)).setCell ⟨g, i + 3, none⟩ (.int .u8 d)) (.slice (some ⟨g, 0, none⟩) n cap) ((((L.set i a).set (i + 1) b).set (i + 2) c).set (i + 3) d) :=
  (((h.stored hn i a ha).stored (by simp [hn]) (i + 1) b hb).stored (by simp [hn]) (i + 2) c hc).stored (by simp [hn]) (i + 3) d hd
theorem below_set4 {w0 w : World} {B g : Nat} (h : Below B w0 w) (hg : B ≤ g) (i : Nat) (a b c d : Value) :
    Below B w0 ((((w.setCell ⟨g, i, none⟩ a).setCell ⟨g, i + 1, none⟩ b).setCell ⟨g, i + 2, none⟩ c).setCell ⟨g, i + 3, none⟩ d) :=
  (((h.setCell (p := ⟨g, i, none⟩) hg a).setCell (p := ⟨g, i + 1, none⟩) hg b).setCell (p := ⟨g, i + 2, none⟩) hg c).setCell (p := ⟨g, i + 3, none⟩) hg d

set_option maxHeartbeats 8000000 in
theorem PackLists_walk (n : Int) (t : ByteArray) (w : World) (hn : (Lit.int .u32 n).wf = true) (ht : t.size ≤ maxLen) :
    Calls Try.prog 6 #[.int .u32 n, .string t] w fun e w' => e = .returned (.bool true) ∧ Below w.heap.size w w' := by
  have HAW := hide (fun w' => awake_any w')
  have hn' : 0 ≤ n ∧ n < 4294967296 := by simp [Lit.wf, IntKind.min, IntKind.max, IntKind.signed, IntKind.bits] at hn; omega
  have htm := ht
  unfold maxLen at htm
  by_cases h1 : (t.size : Int) > 100
  · go_enter Try.func6, Try.ntmps6
    go_wp2_with fail
    refine (HAW.out w).mono ?_
    rintro e w3 ⟨rfl, hb3⟩
    go_wp2
    go_ret
    exact ⟨rfl, hb3⟩
  · have h1' : (t.size : Int) ≤ 100 := by omega
    clear h1
    obtain ⟨X, hX⟩ : ∃ X : Ino, X = ⟨5, 3, 0, 0, t, [], []⟩ := ⟨_, rfl⟩
    have hHead : HeadOk X := by rw [hX]; exact ⟨⟨⟨⟨by unfold In64; simp, by unfold In64; simp⟩, by unfold In64; simp⟩, by unfold In64; simp⟩, by dsimp only; omega⟩
    have hPk : packL [⟨2, 0, X⟩] = (2 :: headE X) ++ (cntE 0 ++ cntE 0) := by
      rw [packL_one, packD_2 rfl, pack_head X (by rw [hX]) (by rw [hX])]
      rfl
    have hHl : (2 :: headE X).length = 37 + t.size := by rw [hX]; simp only [headE, packT, List.length_cons, List.length_append, n8_length, n4_length, bytesIn_length]; omega
    have hOk : parseS (packL [⟨2, 0, X⟩]) = ([⟨2, 0, X⟩], 0) := parse_pack (by intro d hd; rw [List.mem_singleton] at hd; subst hd; exact .inr ⟨rfl, rfl, ⟨hHead, ⟨by rw [hX]; simp, by rw [hX]; simp⟩⟩, ⟨by rw [hX]; simp, by rw [hX]; simp⟩⟩)
    have hPb := packL_one ⟨2, 0, X⟩
    have HR := hide (fun m (h0 : 0 < m) (h1 : m < 4294967296) => lists_runs X hHead m h0 h1)
    have HE := hide (fun m (h0 : 0 < m) (h1 : m < 4294967296) => lists_ents X hHead m h0 h1)
    have HD := hide (deed_new w ⟨⟨2, 0, X⟩, .slice none 0 0, .slice none 0 0⟩ ⟨wf_i64 (by simp) (by simp), wf_i64 (by simp) (by simp), by rw [hX]; exact wf_i64 (by simp) (by simp), by rw [hX]; exact wf_i64 (by simp) (by simp), by rw [hX]; exact wf_i64 (by simp) (by simp), by rw [hX]; exact wf_i64 (by simp) (by simp), by rw [hX]; exact ht, rfl, rfl⟩ ⟨by rw [hX]; exact ERow.nil _, by rw [hX]; exact RRow.nil _⟩ #[.int .i64 2, .int .i64 0, .int .i64 5, .int .i64 3, .int .i64 0, .int .i64 0, .string t, .slice none 0 0, .slice none 0 0] 38 (by rw [hX]; rfl))
    have hC := Deeds_any _ _ _ HD.out (by show (packL [⟨2, 0, X⟩]).length ≤ 1000000; rw [hPk, List.length_append, hHl, List.length_append, cntE_length]; omega)
    rw [show packL ([(⟨⟨2, 0, X⟩, .slice none 0 0, .slice none 0 0⟩ : Dv)].map Dv.d) = packL [⟨2, 0, X⟩] from rfl, hPk] at hC
    rw [hPk] at hOk
    have HOk := hide hOk
    have HC := hide hC
    have HB0 := hide (kl_alloc w (.cells #[.int .i64 2, .int .i64 0, .int .i64 5, .int .i64 3, .int .i64 0, .int .i64 0, .string t, .slice none 0 0, .slice none 0 0] 38))
    have HRn := hide (show ∀ m, 0 < m → m < 4294967296 → parseS ((2 :: headE X) ++ (cntE 0 ++ cntE m)) = ([], 3) from HR.out)
    have HEn := hide (show ∀ m, 0 < m → m < 4294967296 → parseS ((2 :: headE X) ++ (cntE m ++ cntE 0)) = ([], 3) from HE.out)
    have hm : 1 ≤ 1 + n % 2147483648 ∧ 1 + n % 2147483648 ≤ 2147483648 := by omega
    clear hOk hC HD hPb hX HR HE hHead hPk
    generalize 2 :: headE X = P at *
    obtain ⟨p, hp⟩ : ∃ p, P.length = p := ⟨_, rfl⟩
    have HPl := hide hp
    have hpl : p = 37 + t.size := by omega
    have HPL := hide hpl
    have hp0 : p ≤ 137 := by omega
    have hp1 : 37 ≤ p := by omega
    clear hp hHl hpl
    go_enter Try.func6, Try.ntmps6
    go_upto_region 4 with fail
    generalize 1 + n % 2147483648 = m at *
    clear hn hn'
    obtain ⟨m, rfl⟩ := Int.eq_ofNat_of_zero_le (show 0 ≤ m by omega)
    have hm1 : 0 < m := by omega
    have hm2 : m < 4294967296 := by omega
    have HM := hide (And.intro hm1 hm2)
    have HC4 := hide (cntE_four m hm2)
    clear hm1 hm2
    go_wp2_with fail
    refine HC.out.mono ?_
    rintro e w1 ⟨u1, rfl, ho1, hb1⟩
    have hlen : (P ++ (cntE 0 ++ cntE 0)).length = p + 8 := by rw [List.length_append, HPl.out, List.length_append, cntE_length]
    have HO1 := hide ho1.row
    have HB1 := hide (kl_step hb1 HB0.out)
    obtain ⟨bo, bc, hbv⟩ := ho1.row.of_len
    have HLn := hide hlen
    rw [hlen] at hbv
    subst hbv
    clear ho1 hb1 HC hlen HB0
    go_wp2_with fail
    refine (HAW.out w1).mono ?_
    rintro e w2 ⟨rfl, hb2⟩
    have HO2 := hide (HO1.out.below hb2)
    have HB2 := hide (kl_step hb2 HB1.out)
    clear hb2 HO1 HB1
    go_wp2_with (at_builtin; refine wpList_append_row rfl _ _ rfl w2.heap.size (.slice none 0 0) (.slice bo (p + 8) bc) [] (P ++ (cntE 0 ++ cntE 0)) rfl (Own.nil _ _) rfl HO2.out (by rw [HLn.out]; simp; omega) (Nat.le_refl _) ?_)
    intro u3 w3 ho3 hg3
    (try rw [List.nil_append] at ho3)
    have HB3 := hide (show Below w2.heap.size w2 w3 from (Own.nil w2.heap.size w2).grown_below (Below.refl _ _) hg3 (Nat.le_refl _) (Nat.le_refl _))
    obtain ⟨g3, cap3, hu3, hg0, hg1, hcap⟩ := ho3.form (by rw [HLn.out]; omega)
    rw [HLn.out] at hu3 hcap
    subst hu3
    have HO3 := hide ho3
    have HG3 := hide hg0
    clear ho3 hg3 hg0 hg1
    have c0 : w3.cell? ⟨g3, p + 4, none⟩ = some _ := HO3.out.cellAt HLn.out (p + 4) (by omega)
    have c1 : w3.cell? ⟨g3, p + 4 + 1, none⟩ = some _ := HO3.out.cellAt HLn.out (p + 4 + 1) (by omega)
    have c2 : w3.cell? ⟨g3, p + 4 + 2, none⟩ = some _ := HO3.out.cellAt HLn.out (p + 4 + 2) (by omega)
    have c3 : w3.cell? ⟨g3, p + 4 + 3, none⟩ = some _ := HO3.out.cellAt HLn.out (p + 4 + 3) (by omega)
    have f0 : w3.frozen? ⟨g3, p + 4, none⟩ = false := HO3.out.frozenAt HLn.out (p + 4)
    have f1 : w3.frozen? ⟨g3, p + 4 + 1, none⟩ = false := HO3.out.frozenAt HLn.out (p + 4 + 1)
    have f2 : w3.frozen? ⟨g3, p + 4 + 2, none⟩ = false := HO3.out.frozenAt HLn.out (p + 4 + 2)
    have f3 : w3.frozen? ⟨g3, p + 4 + 3, none⟩ = false := HO3.out.frozenAt HLn.out (p + 4 + 3)
    go_upto_region 10 with fail
    have HO4 := hide (own_set4 HO3.out HLn.out (p + 4) ((m : Int) % 256) ((m : Int) / 256 % 256) ((m : Int) / 65536 % 256) ((m : Int) / 16777216) (by omega) (by omega) (by omega) (by have := HM.out; omega))
    have HB4 := hide (below_set4 HB3.out HG3.out (p + 4) (.int .u8 ((m : Int) % 256)) (.int .u8 ((m : Int) / 256 % 256)) (.int .u8 ((m : Int) / 65536 % 256)) (.int .u8 ((m : Int) / 16777216)))
    have HL4 := hide (show ((((P ++ (cntE 0 ++ cntE 0)).set (p + 4) ((m : Int) % 256)).set (p + 4 + 1) ((m : Int) / 256 % 256)).set (p + 4 + 2) ((m : Int) / 65536 % 256)).set (p + 4 + 3) ((m : Int) / 16777216) = P ++ (cntE 0 ++ cntE m) by
      have h := set4 (P ++ cntE 0) [] 0 0 0 0 ((m : Int) % 256) ((m : Int) / 256 % 256) ((m : Int) / 65536 % 256) ((m : Int) / 16777216) (p + 4) (by rw [List.length_append, HPl.out, cntE_length])
      rw [← HC4.out, List.append_nil, List.append_nil, ← cntE_zero, List.append_assoc, List.append_assoc] at h
      exact h)
    rw [HL4.out] at HO4
    generalize ((((w3.setCell ⟨g3, p + 4, none⟩ (.int .u8 ((m : Int) % 256))).setCell ⟨g3, p + 4 + 1, none⟩ (.int .u8 ((m : Int) / 256 % 256))).setCell ⟨g3, p + 4 + 2, none⟩ (.int .u8 ((m : Int) / 65536 % 256))).setCell ⟨g3, p + 4 + 3, none⟩ (.int .u8 ((m : Int) / 16777216))) = w4 at *
    have HO5 := hide (HO2.out.below HB4.out)
    have HB5 := hide (kl_step HB4.out HB2.out)
    have hC := Parse_any w4 _ _ HO4.out.row (by rw [List.length_append, List.length_append, cntE_length, cntE_length, HPl.out]; omega)
    rw [HRn.out m HM.out.1 HM.out.2] at hC
    have HC := hide hC
    clear c0 c1 c2 c3 f0 f1 f2 f3 hC HO4 HB4 HB3 HO3 HO2 HB2 HG3
    go_wp2_with fail
    refine HC.out.mono ?_
    rintro e w5 ⟨u5, d5, rfl, _, _, hb5⟩
    have HO6 := hide (HO5.out.below hb5)
    have HB6 := hide (kl_step hb5 HB5.out)
    clear hb5 HC HO5 HB5
    go_wp2_with (at_builtin; refine wpList_append_row rfl _ _ rfl w5.heap.size (.slice none 0 0) (.slice bo (p + 8) bc) [] (P ++ (cntE 0 ++ cntE 0)) rfl (Own.nil _ _) rfl HO6.out (by rw [HLn.out]; simp; omega) (Nat.le_refl _) ?_)
    intro u7 w7 ho7 hg7
    (try rw [List.nil_append] at ho7)
    have HB7 := hide (show Below w5.heap.size w5 w7 from (Own.nil w5.heap.size w5).grown_below (Below.refl _ _) hg7 (Nat.le_refl _) (Nat.le_refl _))
    obtain ⟨g7, cap7, hu7, hg0, hg1, hcap7⟩ := ho7.form (by rw [HLn.out]; omega)
    rw [HLn.out] at hu7 hcap7
    subst hu7
    have HO7 := hide ho7
    have HG7 := hide hg0
    clear ho7 hg7 hg0 hg1
    have c0 : w7.cell? ⟨g7, p, none⟩ = some _ := HO7.out.cellAt HLn.out p (by omega)
    have c1 : w7.cell? ⟨g7, p + 1, none⟩ = some _ := HO7.out.cellAt HLn.out (p + 1) (by omega)
    have c2 : w7.cell? ⟨g7, p + 2, none⟩ = some _ := HO7.out.cellAt HLn.out (p + 2) (by omega)
    have c3 : w7.cell? ⟨g7, p + 3, none⟩ = some _ := HO7.out.cellAt HLn.out (p + 3) (by omega)
    have f0 : w7.frozen? ⟨g7, p, none⟩ = false := HO7.out.frozenAt HLn.out p
    have f1 : w7.frozen? ⟨g7, p + 1, none⟩ = false := HO7.out.frozenAt HLn.out (p + 1)
    have f2 : w7.frozen? ⟨g7, p + 2, none⟩ = false := HO7.out.frozenAt HLn.out (p + 2)
    have f3 : w7.frozen? ⟨g7, p + 3, none⟩ = false := HO7.out.frozenAt HLn.out (p + 3)
    go_upto_region 13 with fail
    have HO8 := hide (own_set4 HO7.out HLn.out p ((m : Int) % 256) ((m : Int) / 256 % 256) ((m : Int) / 65536 % 256) ((m : Int) / 16777216) (by omega) (by omega) (by omega) (by have := HM.out; omega))
    have HB8 := hide (below_set4 HB7.out HG7.out p (.int .u8 ((m : Int) % 256)) (.int .u8 ((m : Int) / 256 % 256)) (.int .u8 ((m : Int) / 65536 % 256)) (.int .u8 ((m : Int) / 16777216)))
    have HL8 := hide (show ((((P ++ (cntE 0 ++ cntE 0)).set p ((m : Int) % 256)).set (p + 1) ((m : Int) / 256 % 256)).set (p + 2) ((m : Int) / 65536 % 256)).set (p + 3) ((m : Int) / 16777216) = P ++ (cntE m ++ cntE 0) by
      have h := set4 P (cntE 0) 0 0 0 0 ((m : Int) % 256) ((m : Int) / 256 % 256) ((m : Int) / 65536 % 256) ((m : Int) / 16777216) p HPl.out
      rw [← HC4.out, ← cntE_zero] at h
      exact h)
    rw [HL8.out] at HO8
    generalize ((((w7.setCell ⟨g7, p, none⟩ (.int .u8 ((m : Int) % 256))).setCell ⟨g7, p + 1, none⟩ (.int .u8 ((m : Int) / 256 % 256))).setCell ⟨g7, p + 2, none⟩ (.int .u8 ((m : Int) / 65536 % 256))).setCell ⟨g7, p + 3, none⟩ (.int .u8 ((m : Int) / 16777216))) = w8 at *
    have HO9 := hide (HO6.out.below HB8.out)
    have HB9 := hide (kl_step HB8.out HB6.out)
    have hC := Parse_any w8 _ _ HO8.out.row (by rw [List.length_append, List.length_append, cntE_length, cntE_length, HPl.out]; omega)
    rw [HEn.out m HM.out.1 HM.out.2] at hC
    have HC := hide hC
    clear c0 c1 c2 c3 f0 f1 f2 f3 hC HO8 HB8 HB7 HO7 HO6 HB6 HG7
    go_wp2_with fail
    refine HC.out.mono ?_
    rintro e w10 ⟨u10, d10, rfl, _, _, hb10⟩
    have HO11 := hide (HO9.out.below hb10)
    have HB11 := hide (kl_step hb10 HB9.out)
    have hC := Parse_any w10 _ _ HO11.out (by rw [HLn.out]; omega)
    rw [HOk.out] at hC
    have HC2 := hide hC
    clear hb10 HC HO9 HB9 hC
    go_wp2_with fail
    refine HC2.out.mono ?_
    rintro e w12 ⟨u12, d12, rfl, _, _, hb12⟩
    have HB12 := hide (kl_step hb12 HB11.out)
    clear hb12
    go_wp2
    go_ret
    exact ⟨rfl, HB12.out⟩
end Go.Proofs.Ytgkmgpjhpplkiaa
