/-
  The walk of garretlaw01.CodecTells.
-/
import Derived.Test.YtmkejjeniebllaaAwake01
import Derived.Test.YtmkejjeniebllaaRefCodec
import Derived.Test.YtmkejjeniebllaaHelp2
namespace Go.Proofs.Ytmkejjeniebllaa
open Go.RowKit
set_option linter.unusedVariables false

theorem owns_kept {w w' : World} {base : Nat} {e : TypeId} {size n : Nat} {v : Value} {xs : List Value} (h : w.ownsRow base e size v n xs) (hb : Below w.heap.size w w') : w'.ownsRow base e size v n xs :=
  h.kept (row := none) ⟨hb.os, hb.tape, hb.output, hb.size, fun k hk _ => hb.block k hk⟩ (by cases hv : v.ownBlock <;> simp)

theorem below_chain {a b c : World} (h : Below a.heap.size a b) (k : Below b.heap.size b c) : Below a.heap.size a c := h.trans (k.mono h.size)

set_option maxHeartbeats 4000000 in
set_option maxRecDepth 100000 in
theorem CodecTells_walk (bv0 : Value) (xs : List Int) (pos n v i : Int) (s : ByteArray) (w : World) (w0 : IRow .u8 w bv0 xs) (w1 : (Lit.int .i64 pos).wf = true) (w2 : (Lit.int .i64 n).wf = true) (w3 : (Lit.int .u64 v).wf = true) (w4 : (Lit.int .i64 i).wf = true) (w5 : s.size ≤ maxLen) :
    Calls Try.prog 3 #[bv0, .int .i64 pos, .int .i64 n, .int .u64 v, .int .i64 i, .string s] w fun e w' => e = .returned (.bool true) ∧ Below w.heap.size w w' := by
  have hbr := w0.bytes
  obtain ⟨bao, bcap, hbv⟩ := hbr.of_len
  have hxm := hbr.len
  have hv := bounds_u64 w3
  unfold maxLen at hxm w5
  by_cases hbig : 500 < xs.length ∨ 500 < s.size
  · subst hbv
    generalize xs.length = xl at *
    clear hbr w0 w1 w2 w3 w4
    rcases (show ((500 : Int) < xl) ∨ (¬ (500 : Int) < xl ∧ (500 : Int) < s.size) from by omega) with h1 | ⟨h1, h2⟩
    all_goals
      clear hbig
      go_enter Try.func3, Try.ntmps3
      go_wp2_with fail
      refine (awake_any _).mono ?_
      rintro e w5 ⟨rfl, hb5⟩
      go_wp2
      go_ret
      exact ⟨rfl, hb5⟩
  · have h1 : ¬ (500 : Int) < xs.length := by omega
    have h2 : ¬ (500 : Int) < s.size := by omega
    have HO := (show Hid _ from Own_any w bv0 xs 71 hbr (by omega))
    have hn5 : xs.length ≤ 500 := by omega
    subst hbv
    generalize hL : xs.length = xl at *
    have HL : Hid (xs.length = xl) := hL
    clear hbig hL
    go_enter Try.func3, Try.ntmps3
    go_wp2_with fail
    refine Calls.mono HO.out ?_
    rintro e wa ⟨rfl, hoa, hba⟩
    have hcut := owns_cut hoa (n := xl) (by omega)
    rw [List.take_left' (by rw [bv_length]; exact HL.out)] at hcut
    have hin : Own w.heap.size wa (.slice (some ⟨w.heap.size, 0, none⟩) xl (xl + 3)) xs := ⟨by rw [HL.out]; exact hcut, hbr.bys⟩
    have hbra := hbr.below hba
    have hinr := hin.row
    clear hcut HO
    go_wp2_with fail
    refine (Get_any _ _ _ pos n hinr w1 w2).mono ?_
    rintro e wx ⟨rfl, rfl⟩
    go_wp2_with fail
    refine (refGet_any _ _ _ pos n hbra w1 w2).mono ?_
    rintro e wx ⟨rfl, rfl⟩
    go_wp2_with fail
    refine (GetText_any _ _ _ pos hinr w1).mono ?_
    rintro e wx ⟨rfl, rfl⟩
    go_wp2_with fail
    refine (refGetText_any _ _ _ pos hbra w1).mono ?_
    rintro e wx ⟨rfl, rfl⟩
    have HT : Hid (pos < 0 → textS xs pos = ([], 0, 1)) := by
      intro hneg
      have hg : getS xs pos 4 = (0, 1) := by unfold getS; rw [if_pos (Or.inl hneg)]
      unfold textS
      rw [hg, if_pos (by simp)]
    by_cases hneg : pos < 0
    · have ht := HT.out hneg
      have hnil : strOfNums ([] : List Int) = ⟨#[]⟩ := rfl
      rw [ht, hnil]
      clear ht hnil HT
      go_wp2_with fail
      refine (GetInt_any _ _ _ pos hinr w1).mono ?_
      rintro e wx ⟨rfl, rfl⟩
      go_wp2_with fail
      refine (refGet_any _ _ _ pos 8 hbra w1 (by decide)).mono ?_
      rintro e wx ⟨rfl, rfl⟩
      go_wp2_with fail
      refine (awake_any _).mono ?_
      rintro e wb ⟨rfl, hbb⟩
      have hi1 := hinr.below hbb
      have hb1 := hbra.below hbb
      go_wp2_with fail
      refine (Put_any _ _ _ v n hi1 (by rw [HL.out]; omega) (by omega) (by omega)).mono ?_
      rintro e wc ⟨u1, rfl, ho1, hbc⟩
      have hi2 := hi1.below hbc
      have hb2 := hb1.below hbc
      go_wp2_with fail
      refine (refPut_any _ _ _ v n hb2 (by rw [HL.out]; omega) (by omega) (by omega)).mono ?_
      rintro e wd ⟨u2, rfl, ho2, hbd⟩
      have hi3 := hi2.below hbd
      have hb3 := hb2.below hbd
      have ho1d := (ho1.kept hbd).row
      go_wp2_with fail
      refine (Bytes_any _ _ _ _ _ ho1d ho2.row).mono ?_
      rintro e wx ⟨rfl, rfl⟩
      simp only [decide_true]
      go_wp2_with fail
      refine (PutInt_any _ _ _ i hi3 (by rw [HL.out]; omega) w4).mono ?_
      rintro e we ⟨u3, rfl, ho3, hbe⟩
      have hi4 := hi3.below hbe
      have hb4 := hb3.below hbe
      go_wp2_with fail
      rw [IntKind.wrap_u64]
      refine (refPut_any _ _ _ (i % 18446744073709551616) 8 hb4 (by rw [HL.out]; omega) (Int.emod_nonneg _ (by omega)) (Int.emod_lt_of_pos _ (by omega))).mono ?_
      rintro e wf ⟨u4, rfl, ho4, hbf⟩
      have hi5 := hi4.below hbf
      have hb5 := hb4.below hbf
      have ho3f := (ho3.kept hbf).row
      rw [show held 8 = 8 from rfl] at ho4
      go_wp2_with fail
      refine (Bytes_any _ _ _ _ _ ho3f ho4.row).mono ?_
      rintro e wx ⟨rfl, rfl⟩
      simp only [decide_true]
      go_wp2_with fail
      refine (PutText_any _ _ _ s hi5 (by rw [HL.out]; omega)).mono ?_
      rintro e wg ⟨u5, rfl, ho5, hbg⟩
      have hi6 := hi5.below hbg
      have hb6 := hb5.below hbg
      go_wp2_with fail
      refine (refPutText_any _ _ _ s hb6 (by rw [HL.out]; omega)).mono ?_
      rintro e wh ⟨u6, rfl, ho6, hbh⟩
      have hi7 := hi6.below hbh
      have hb7 := hb6.below hbh
      have ho5h := (ho5.kept hbh).row
      go_wp2_with fail
      refine (Bytes_any _ _ _ _ _ ho5h ho6.row).mono ?_
      rintro e wx ⟨rfl, rfl⟩
      simp only [decide_true]
      have hAB := below_chain hbb (below_chain hbc (below_chain hbd (below_chain hbe (below_chain hbf (below_chain hbg hbh)))))
      have hoX := owns_kept hoa hAB
      have HK := (show Hid _ from Kept_any _ w.heap.size w.heap.size _ xs 71 (by omega) hb7 (by rw [HL.out]; omega) (by rw [HL.out]; exact hoX))
      rw [HL.out] at HK
      go_wp2_with fail
      refine Calls.mono HK.out ?_
      rintro e wy ⟨rfl, hst⟩
      go_wp2
      go_ret
      exact ⟨rfl, (hba.trans (hAB.mono hba.size)).trans (hst _)⟩
    · clear HT
      go_wp2_with fail
      refine (GetInt_any _ _ _ pos hinr w1).mono ?_
      rintro e wx ⟨rfl, rfl⟩
      go_wp2_with fail
      refine (refGet_any _ _ _ pos 8 hbra w1 (by decide)).mono ?_
      rintro e wx ⟨rfl, rfl⟩
      go_wp2_with fail
      refine (awake_any _).mono ?_
      rintro e wb ⟨rfl, hbb⟩
      have hi1 := hinr.below hbb
      have hb1 := hbra.below hbb
      go_wp2_with fail
      refine (Put_any _ _ _ v n hi1 (by rw [HL.out]; omega) (by omega) (by omega)).mono ?_
      rintro e wc ⟨u1, rfl, ho1, hbc⟩
      have hi2 := hi1.below hbc
      have hb2 := hb1.below hbc
      go_wp2_with fail
      refine (refPut_any _ _ _ v n hb2 (by rw [HL.out]; omega) (by omega) (by omega)).mono ?_
      rintro e wd ⟨u2, rfl, ho2, hbd⟩
      have hi3 := hi2.below hbd
      have hb3 := hb2.below hbd
      have ho1d := (ho1.kept hbd).row
      go_wp2_with fail
      refine (Bytes_any _ _ _ _ _ ho1d ho2.row).mono ?_
      rintro e wx ⟨rfl, rfl⟩
      simp only [decide_true]
      go_wp2_with fail
      refine (PutInt_any _ _ _ i hi3 (by rw [HL.out]; omega) w4).mono ?_
      rintro e we ⟨u3, rfl, ho3, hbe⟩
      have hi4 := hi3.below hbe
      have hb4 := hb3.below hbe
      go_wp2_with fail
      rw [IntKind.wrap_u64]
      refine (refPut_any _ _ _ (i % 18446744073709551616) 8 hb4 (by rw [HL.out]; omega) (Int.emod_nonneg _ (by omega)) (Int.emod_lt_of_pos _ (by omega))).mono ?_
      rintro e wf ⟨u4, rfl, ho4, hbf⟩
      have hi5 := hi4.below hbf
      have hb5 := hb4.below hbf
      have ho3f := (ho3.kept hbf).row
      rw [show held 8 = 8 from rfl] at ho4
      go_wp2_with fail
      refine (Bytes_any _ _ _ _ _ ho3f ho4.row).mono ?_
      rintro e wx ⟨rfl, rfl⟩
      simp only [decide_true]
      go_wp2_with fail
      refine (PutText_any _ _ _ s hi5 (by rw [HL.out]; omega)).mono ?_
      rintro e wg ⟨u5, rfl, ho5, hbg⟩
      have hi6 := hi5.below hbg
      have hb6 := hb5.below hbg
      go_wp2_with fail
      refine (refPutText_any _ _ _ s hb6 (by rw [HL.out]; omega)).mono ?_
      rintro e wh ⟨u6, rfl, ho6, hbh⟩
      have hi7 := hi6.below hbh
      have hb7 := hb6.below hbh
      have ho5h := (ho5.kept hbh).row
      go_wp2_with fail
      refine (Bytes_any _ _ _ _ _ ho5h ho6.row).mono ?_
      rintro e wx ⟨rfl, rfl⟩
      simp only [decide_true]
      have hAB := below_chain hbb (below_chain hbc (below_chain hbd (below_chain hbe (below_chain hbf (below_chain hbg hbh)))))
      have hoX := owns_kept hoa hAB
      have HK := (show Hid _ from Kept_any _ w.heap.size w.heap.size _ xs 71 (by omega) hb7 (by rw [HL.out]; omega) (by rw [HL.out]; exact hoX))
      rw [HL.out] at HK
      go_wp2_with fail
      refine Calls.mono HK.out ?_
      rintro e wy ⟨rfl, hst⟩
      go_wp2
      go_ret
      exact ⟨rfl, (hba.trans (hAB.mono hba.size)).trans (hst _)⟩
end Go.Proofs.Ytmkejjeniebllaa
