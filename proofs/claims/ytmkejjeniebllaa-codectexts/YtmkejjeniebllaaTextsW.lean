/-
  The walk of garretlaw01.CodecTexts.
-/
import Derived.Test.YtmkejjeniebllaaAwake01
import Derived.Test.YtmkejjeniebllaaTexts
import Derived.OpenShut
namespace Go.Proofs.Ytmkejjeniebllaa
open Go.RowKit
set_option linter.unusedVariables false

set_option maxHeartbeats 1000000 in
theorem CodecTexts_walk (s : ByteArray) (mv : Value) (more : List Int) (cut : Int) (w : World) (w0 : s.size ≤ maxLen) (w1 : IRow .u8 w mv more) (w2 : (Lit.int .i64 cut).wf = true) :
    Calls Try.prog 6 #[.string s, mv, .int .i64 cut] w fun e w' => e = .returned (.bool true) ∧ Below w.heap.size w w' := by
  have hm := w1.bytes
  obtain ⟨mao, mcap, hmv⟩ := hm.of_len
  have hml := hm.len
  unfold maxLen at hml w0
  by_cases hbig : 300 < s.size ∨ 50 < more.length
  · subst hmv
    generalize more.length = ml at *
    clear hm w1 w2
    by_cases h1 : (300 : Int) < s.size
    · clear hbig
      go_enter Try.func6, Try.ntmps6
      go_wp2_with fail
      refine (awake_any _).mono ?_
      rintro e w5 ⟨rfl, hb5⟩
      go_wp2
      go_ret
      exact ⟨rfl, hb5⟩
    · have h2 : (50 : Int) < ml := by omega
      clear hbig
      go_enter Try.func6, Try.ntmps6
      go_wp2_with fail
      refine (awake_any _).mono ?_
      rintro e w5 ⟨rfl, hb5⟩
      go_wp2
      go_ret
      exact ⟨rfl, hb5⟩
  · have h1 : (s.size : Int) ≤ 300 := by omega
    have h2 : (more.length : Int) ≤ 50 := by omega
    subst hmv
    generalize hml : more.length = ml at *
    go_enter Try.func6, Try.ntmps6
    go_wp2_with fail
    refine (PutText_any _ _ [] s (Row.nil _) (by simp; omega)).mono ?_
    rintro e wa ⟨u, rfl, ho, hb⟩
    rw [List.nil_append] at ho
    obtain ⟨X, hX⟩ : ∃ X, X = low s.size 4 ++ bytesIn s := ⟨_, rfl⟩
    rw [← hX] at ho
    have hXl : X.length = 4 + s.size := by rw [hX, List.length_append, low_length, bytesIn_length]
    have hmr := hm.below hb
    obtain ⟨uao, ucap, hu⟩ := ho.row.of_len
    rw [hXl] at hu
    subst hu
    have HX : Hid (X = low s.size 4 ++ bytesIn s) := hX
    have HXl : Hid (X.length = 4 + s.size) := hXl
    clear hX hXl
    go_wp2_with (at_builtin; refine wpList_append_row rfl _ _ rfl wa.heap.size _ _ [] X rfl (Own.nil _ _) rfl ho.row (by have := HXl.out; simp; omega) (Nat.le_refl _) ?_)
    intro v1 wb hob hgb
    have hbb : Below wa.heap.size wa wb := (Own.nil wa.heap.size wa).grown_below (Below.refl _ _) hgb (Nat.le_refl _) (Nat.le_refl _)
    have hmr2 := hmr.below hbb
    have ho2 := ho.kept hbb
    go_wp2_with (at_builtin; refine wpList_append_row rfl _ _ rfl wa.heap.size _ _ X more rfl hob rfl hmr2 (by have := HXl.out; omega) hbb.size ?_)
    intro v2 wc hoc hgc
    have hbc : Below wa.heap.size wa wc := hob.grown_below hbb hgc (Nat.le_refl _) hbb.size
    have ho3 := ho.kept hbc
    go_wp2_with fail
    refine (GetText_any _ _ _ 0 hoc.row (by decide)).mono ?_
    rintro e wd ⟨rfl, rfl⟩
    have ht : textS (X ++ more) 0 = (bytesIn s, 4 + (s.size : Int), 0) := by
      have := textS_put [] (bytesIn s) more (by rw [bytesIn_length]; omega)
      rw [List.nil_append, bytesIn_length, ← List.append_assoc, ← HX.out] at this
      simpa using this
    rw [ht]
    clear ht
    go_wp2_with fail
    refine (awake_any _).mono ?_
    rintro e we ⟨rfl, hbe⟩
    have ho4 := ho3.kept hbe
    have hcp := ho4.row.caps.2.1
    obtain ⟨k, hk, hE⟩ := cut_n cut (4 + s.size) (by omega) (by omega)
    rw [show ((4 + s.size : Nat) : Int) = 4 + (s.size : Int) from by omega] at hE
    go_wp2_with fail
    refine (GetText_any _ _ _ 0 (ho4.row.cut k (by omega)) (by decide)).mono ?_
    rintro e wf ⟨rfl, rfl⟩
    have ht : textS (X.take k) 0 = ([], 0, 3) := by
      rw [HX.out]
      have := textS_cut (bytesIn s) k (by rw [bytesIn_length]; exact hk) (by rw [bytesIn_length]; omega)
      rw [bytesIn_length] at this
      exact this
    rw [ht, strOfNums_bytesIn]
    clear ht
    go_wp2
    go_ret
    have hbw : Below w.heap.size w wd := hb.trans (hbc.mono hb.size)
    exact ⟨rfl, hbw.trans (hbe.mono hbw.size)⟩
end Go.Proofs.Ytmkejjeniebllaa
