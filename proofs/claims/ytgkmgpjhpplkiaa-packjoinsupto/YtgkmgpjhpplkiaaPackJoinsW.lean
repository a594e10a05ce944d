/-
  PackJoins: its walk.
-/
import Derived.Test.YtgkmgpjhpplkiaaPackJoinsB1
import Derived.Test.YtgkmgpjhpplkiaaHelp
namespace Go.Proofs.Ytgkmgpjhpplkiaa
open Go.RowKit
set_option linter.unusedVariables false
set_option maxRecDepth 100000

theorem PackJoins_open0 (w : World) : OpensN Try.prog w 22 (fun cs n => ∃ v xs, cs = [v] ∧ DRow w v xs ∧ wtL (xs.map Dv.d) + 1 ≤ n) := opensN_deeds w
theorem PackJoins_open1 (w : World) : OpensN Try.prog w 22 (fun cs n => ∃ v xs, cs = [v] ∧ DRow w v xs ∧ wtL (xs.map Dv.d) + 1 ≤ n) := opensN_deeds w
theorem DRow.elder {w : World} {v : Value} {l : List Dv} {base : Nat} (h : DRow w v l) (hb : w.heap.size ≤ base) : ∀ y ∈ l, ApartN y.d.x.es.length base w y.ev ∧ ApartN y.d.x.rs.length base w y.rv :=
  fun y hy => ⟨(h.2 y hy).e.elder hb, (h.2 y hy).r.elder hb⟩
theorem odd_len (k : Int) (h0 : 0 ≤ k) (h1 : k ≤ 255) : (decide ((packL [⟨k, 5, noI⟩]).length = 1)) = decide (k < 1 ∨ 4 < k) := by
  rw [packL_one]
  by_cases h : k = 1 ∨ k = 3 ∨ k = 4
  · rw [packD_1 h, List.length_append, n8_length, decide_eq_false (by simp), decide_eq_false (by omega)]
  · by_cases h2 : k = 2
    · subst h2
      rw [packD_2 rfl, List.length_append, packI_length, decide_eq_false (by simp), decide_eq_false (by omega)]
    · rw [packD_0 h h2, decide_eq_true (by rfl), decide_eq_true (by omega)]
theorem odd_few (k : Int) : (packL [⟨k, 5, noI⟩]).length ≤ 1000 := by
  rw [packL_one]
  have := packD_le ⟨k, 5, noI⟩
  have h2 : sizD ⟨k, 5, noI⟩ = 10 := rfl
  omega

set_option maxHeartbeats 8000000 in
theorem PackJoins_walk (av : Value) (xs : List Dv) (bv : Value) (ys : List Dv) (k : Int) (w : World) (ha : DRow w av xs) (hna : wtL (xs.map Dv.d) + 1 ≤ 1048576) (hb : DRow w bv ys) (hnb : wtL (ys.map Dv.d) + 1 ≤ 1048576) (hk : (Lit.int .u8 k).wf = true) :
    Calls Try.prog 5 #[av, bv, .int .u8 k] w fun e w' => e = .returned (.bool true) ∧ Below w.heap.size w w' := by
  have HFA := hide (fun w' (h : Below w.heap.size w w') => few_any w' av xs (ha.below h) hna)
  have HFB := hide (fun w' (h : Below w.heap.size w w') => few_any w' bv ys (hb.below h) hnb)
  have HAW := hide (fun w' => awake_any w')
  have HA := hide ha
  have HB := hide hb
  have hk' := wf_u8 hk
  clear ha hb hna hnb hk
  by_cases h1 : sizL (xs.map Dv.d) ≤ 4000
  · by_cases h2 : sizL (ys.map Dv.d) ≤ 4000
    · rw [decide_eq_true h1] at HFA
      rw [decide_eq_true h2] at HFB
      have hpa := packL_few h1
      have hpb := packL_few h2
      have hla := length_few h1
      have hlb := length_few h2
      rw [List.length_map] at hla hlb
      have HL := hide (And.intro (And.intro hpa hpb) (And.intro hla hlb))
      have hap := packL_app (xs.map Dv.d) (ys.map Dv.d)
      rw [← List.map_append] at hap
      have HAP := hide hap
      have hodd := odd_len k (by omega) (by omega)
      have HOF := hide (odd_few k)
      clear h1 h2 hpa hpb hla hlb hap
      go_enter Try.func5, Try.ntmps5
      go_wp2_with fail
      refine (HFA.out w (Below.refl _ _)).mono ?_
      rintro e w1 ⟨rfl, hb1⟩
      have HB1 := hide hb1
      clear hb1 HFA
      go_wp2_with fail
      refine (HFB.out w1 HB1.out).mono ?_
      rintro e w2 ⟨rfl, hb2⟩
      have HB2 := hide (kl_step hb2 HB1.out)
      have HA2 := hide (HA.out.below HB2.out)
      have HBb2 := hide (HB.out.below HB2.out)
      clear hb2 HFB HB1
      go_wp2_with (at_builtin; refine wpList_append_deeds rfl _ _ rfl w2.heap.size (.slice none 0 0) av [] xs rfl (DOwn.nil _ _) rfl HA2.out (HA2.out.elder (Nat.le_refl _)) (by have := HL.out; simp; omega) (Nat.le_refl _) ?_)
      intro u3 w3 ho3 hg3
      have HB3 := hide (show Below w2.heap.size w2 w3 from (DOwn.nil w2.heap.size w2).grown_below (Below.refl _ _) hg3 (Nat.le_refl _) (Nat.le_refl _))
      have HO3 := hide ho3
      have HBb3 := hide (HBb2.out.below HB3.out)
      clear ho3 hg3
      go_wp2_with (at_builtin; refine wpList_append_deeds rfl _ _ rfl w2.heap.size u3 bv ([] ++ xs) ys rfl HO3.out rfl HBb3.out (fun y hy => ⟨((HBb2.out.elder (Nat.le_refl _)) y hy).1.below HB3.out, ((HBb2.out.elder (Nat.le_refl _)) y hy).2.below HB3.out⟩) (by have := HL.out; simp; omega) HB3.out.size ?_)
      intro u4 w4 ho4 hg4
      have HB4 := hide (show Below w2.heap.size w2 w4 from HO3.out.grown_below HB3.out hg4 (Nat.le_refl _) HB3.out.size)
      have HO4 := hide (show DRow w4 u4 (xs ++ ys) from ho4.row)
      have HA4 := hide (HA2.out.below HB4.out)
      have HBb4 := hide (HBb2.out.below HB4.out)
      have HBw4 := hide (kl_step HB4.out HB2.out)
      clear ho4 hg4 HO3 HB3 HBb3 HB4 HA2 HBb2 HB2
      have HD := hide (deed_new w4 ⟨⟨k, 5, noI⟩, .slice none 0 0, .slice none 0 0⟩ (dv_num (wf_i64 (by omega) (by omega)) (wf_i64 (by decide) (by decide))) ⟨ERow.nil _, RRow.nil _⟩ #[.int .i64 k, .int .i64 5, .int .i64 0, .int .i64 0, .int .i64 0, .int .i64 0, .string ByteArray.empty, .slice none 0 0, .slice none 0 0] 38 rfl)
      have hba := kl_alloc w4 (.cells #[.int .i64 k, .int .i64 5, .int .i64 0, .int .i64 0, .int .i64 0, .int .i64 0, .string ByteArray.empty, .slice none 0 0, .slice none 0 0] 38)
      have hC := Deeds_any _ _ _ HD.out (by have := HOF.out; show (packL [⟨k, 5, noI⟩]).length ≤ 1000000; omega)
      rw [show packL ([(⟨⟨k, 5, noI⟩, .slice none 0 0, .slice none 0 0⟩ : Dv)].map Dv.d) = packL [⟨k, 5, noI⟩] from rfl] at hC
      generalize packL [⟨k, 5, noI⟩] = OD at *
      have HC := hide hC
      have HO5 := hide (HO4.out.below hba)
      have HA5 := hide (HA4.out.below hba)
      have HBb5 := hide (HBb4.out.below hba)
      have HBw5 := hide (kl_step hba HBw4.out)
      clear hba hC HD HO4 HA4 HBb4 HBw4
      go_wp2_with fail
      refine HC.out.mono ?_
      rintro e w6 ⟨u6, rfl, ho6, hb6⟩
      have HO6 := hide (HO5.out.below hb6)
      have HA6 := hide (HA5.out.below hb6)
      have HBb6 := hide (HBb5.out.below hb6)
      have HBw6 := hide (kl_step hb6 HBw5.out)
      obtain ⟨oo, oc, hov⟩ := ho6.row.of_len
      have hol : (OD.length : Int) ≤ 1000 := by have := HOF.out; omega
      generalize OD.length = ol at *
      subst hov
      have HK := hide hodd
      clear ho6 hb6 HC HO5 HA5 HBb5 HBw5 hodd
      go_wp2_with fail
      refine (HAW.out w6).mono ?_
      rintro e w7 ⟨rfl, hb7⟩
      have HO7 := hide (HO6.out.below hb7)
      have HA7 := hide (HA6.out.below hb7)
      have HBb7 := hide (HBb6.out.below hb7)
      have HBw7 := hide (kl_step hb7 HBw6.out)
      clear hb7 HO6 HA6 HBb6 HBw6
      go_wp2_with fail
      refine (Deeds_any w7 u4 (xs ++ ys) HO7.out (by rw [HAP.out, List.length_append]; have := HL.out; omega)).mono ?_
      rintro e w8 ⟨u8, rfl, ho8, hb8⟩
      have HQ8 := hide ho8.row
      have HA8 := hide (HA7.out.below hb8)
      have HBb8 := hide (HBb7.out.below hb8)
      have HBw8 := hide (kl_step hb8 HBw7.out)
      have HZ8 := hide HBw8.out.size
      clear ho8 hb8 HO7 HA7 HBb7 HBw7
      go_wp2_with fail
      refine (Deeds_any w8 av xs HA8.out (by have := HL.out; omega)).mono ?_
      rintro e w9 ⟨u9, rfl, ho9, hb9⟩
      have HX9 := hide hb9
      have HO9 := hide ho9
      have HBb9 := hide (HBb8.out.below hb9)
      have HBw9 := hide (kl_step hb9 HBw8.out)
      clear ho9 hb9 HA8 HBb8 HBw8
      go_wp2_with fail
      refine (Deeds_any w9 bv ys HBb9.out (by have := HL.out; omega)).mono ?_
      rintro e w10 ⟨u10, rfl, ho10, hb10⟩
      have HX10 := hide (kl_step hb10 HX9.out)
      have HO10 := hide (HO9.out.kept hb10)
      have HP10 := hide ho10.row
      have HBw10 := hide (kl_step hb10 HBw9.out)
      clear ho10 hb10 HBb9 HBw9 HX9 HO9
      go_wp2_with (at_builtin; refine wpList_unguard rfl ?_; refine wpList_append_row rfl _ _ rfl w8.heap.size u9 u10 (packL (xs.map Dv.d)) (packL (ys.map Dv.d)) rfl HO10.out rfl HP10.out (by have := HL.out; omega) HX10.out.size ?_)
      intro u11 w11 ho11 hg11
      have hb11 : Below w8.heap.size w8 w11 := HO10.out.grown_below HX10.out hg11 (Nat.le_refl _) HX10.out.size
      have HQ11 := hide (HQ8.out.below hb11)
      have HP11 := hide ho11.row
      have HBw11 := hide (show Below w.heap.size w w11 from HBw10.out.grown hg11 HBw10.out.size (fun k e => Nat.le_trans HZ8.out ((HO10.out.block k e).1)))
      clear ho11 hg11 hb11 HX10 HO10 HP10 HBw10 HQ8
      go_wp2_with fail
      refine (Bytes_any w11 u8 u11 _ _ HQ11.out HP11.out).mono ?_
      rw [decide_eq_true HAP.out]
      rintro e w12 ⟨rfl, rfl⟩
      by_cases hc1 : k < 1
      · have ho : ol = 1 := by have := HK.out; rw [decide_eq_true (show k < 1 ∨ 4 < k from .inl hc1)] at this; exact of_decide_eq_true this
        subst ho
        go_wp2
        go_ret
        exact ⟨rfl, HBw11.out⟩
      · by_cases hc2 : k > 4
        · have ho : ol = 1 := by have := HK.out; rw [decide_eq_true (show k < 1 ∨ 4 < k from .inr hc2)] at this; exact of_decide_eq_true this
          subst ho
          go_wp2
          go_ret
          exact ⟨rfl, HBw11.out⟩
        · have ho : ¬ ol = 1 := by have := HK.out; rw [decide_eq_false (show ¬ (k < 1 ∨ 4 < k) by omega)] at this; exact of_decide_eq_false this
          have ho' : ((ol : Int) == 1) = false := by simp; omega
          go_wp2
          go_ret
          exact ⟨ret_one (congrArg Value.bool (show (!decide (k < 1) && !decide (4 < k)) = true by rw [decide_eq_false (show ¬ k < 1 by omega), decide_eq_false (show ¬ 4 < k by omega)]; rfl)), HBw11.out⟩
    · rw [decide_eq_true h1] at HFA
      rw [decide_eq_false h2] at HFB
      clear h1 h2
      go_enter Try.func5, Try.ntmps5
      go_wp2_with fail
      refine (HFA.out w (Below.refl _ _)).mono ?_
      rintro e w1 ⟨rfl, hb1⟩
      have HB1 := hide hb1
      clear hb1 HFA
      go_wp2_with fail
      refine (HFB.out w1 HB1.out).mono ?_
      rintro e w2 ⟨rfl, hb2⟩
      have HB2 := hide (kl_step hb2 HB1.out)
      clear hb2 HFB HB1
      go_wp2_with fail
      refine (HAW.out w2).mono ?_
      rintro e w3 ⟨rfl, hb3⟩
      have HB3 := hide (kl_step hb3 HB2.out)
      go_wp2
      go_ret
      exact ⟨rfl, HB3.out⟩
  · rw [decide_eq_false h1] at HFA
    clear h1
    go_enter Try.func5, Try.ntmps5
    go_wp2_with fail
    refine (HFA.out w (Below.refl _ _)).mono ?_
    rintro e w1 ⟨rfl, hb1⟩
    have HB1 := hide hb1
    clear hb1 HFA
    go_wp2_with fail
    refine (HAW.out w1).mono ?_
    rintro e w3 ⟨rfl, hb3⟩
    have HB3 := hide (kl_step hb3 HB1.out)
    go_wp2
    go_ret
    exact ⟨rfl, HB3.out⟩
end Go.Proofs.Ytgkmgpjhpplkiaa
