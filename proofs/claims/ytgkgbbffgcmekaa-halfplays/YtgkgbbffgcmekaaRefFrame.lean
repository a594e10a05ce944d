/-
  The document's own records (garretref01.Body, Scan, erased): the same plain functions.
-/
import Derived.Test.YtgkgbbffgcmekaaFrameC
import Derived.Test.YtgkgbbffgcmekaaRefCodec
import Derived.Test.YtgkgbbffgcmekaaRefSum
import Derived.Test.YtgkgbbffgcmekaaDrawn
namespace Go.Proofs.Ytgkgbbffgcmekaa
open Go.RowKit
set_option linter.unusedVariables false
set_option maxRecDepth 100000

theorem Rerased_any (w : World) (b : Value) (xs : List Int) (h : Row w b xs) :
    Calls Try.prog 44 #[b] w fun e w' => e = .returned (.bool (clean xs)) ∧ w' = w := by
  have hlm := h.len
  unfold maxLen at hlm
  by_cases h0 : xs = []
  · subst h0
    obtain ⟨ao, cap, rfl⟩ := h.of_len
    simp only [List.length_nil]
    go_enter Try.func44, Try.ntmps44
    go_wp2
    refine wp_loop_rounds 1 ?_
    rw [rounds_succ]
    go_wp2
    go_ret
    exact ⟨rfl, rfl⟩
  · obtain ⟨bl, off, cap, rfl, hlc, hbl, hc⟩ := h.at h0
    generalize hL : xs.length = len at *
    have HL := hide hL
    clear hL h
    go_enter Try.func44, Try.ntmps44
    go_wp2
    go_loop [3] (fun i => ∃ k : Nat, k ≤ len ∧ i = .int .i64 k ∧ clean (xs.take k) = true) (fun i => len - (intOf i).toNat)
    case atStart => exact ⟨0, Nat.zero_le _, rfl, rfl⟩
    case round =>
      obtain ⟨k, hk, rfl, hcl⟩ := hrel
      have HC := hide hcl
      clear hcl
      by_cases hlt : k < len
      · have hck := hc k hlt
        obtain ⟨x, hx⟩ : ∃ x, x = xs.getD k 0 := ⟨_, rfl⟩
        rw [← hx] at hck
        have HX := hide hx
        have hk' : k < xs.length := by rw [HL.out]; exact hlt
        have HK := hide hk'
        clear hx hc hk'
        by_cases he : x = 255
        · subst he
          go_wp2
          go_round
          case rel => exact ⟨k + 1, by omega, by go_num, by rw [take_one_more HK.out, clean, List.all_append, ← HX.out]; simpa [clean] using HC.out⟩
          case measure => simp [intOf]; omega
        · have hne : (x != 255) = true := by simpa using he
          have hd : clean xs = false := by
            unfold clean
            rw [List.all_eq_false]
            refine ⟨x, ?_, by simpa using he⟩
            rw [HX.out]
            simp [List.getD, List.getElem?_eq_getElem HK.out]
          have HD := hide hd
          clear hd he
          go_wp2
          go_ret
          exact ⟨ret_one (congrArg Value.bool HD.out.symm), rfl⟩
      · obtain rfl : k = len := by omega
        have hd : clean xs = true := by
          have := HC.out
          rwa [List.take_of_length_le (by rw [HL.out]; exact Nat.le_refl _)] at this
        have HD := hide hd
        clear hd
        go_wp2
        go_ret
        exact ⟨ret_one (congrArg Value.bool HD.out.symm), rfl⟩

theorem held2 : held 2 = 2 := rfl
/-- What a region holds that only grows. -/
theorem kb_step {w0 W W' : World} (hs : Below W.heap.size W W') (h : Below w0.heap.size w0 W) : Below w0.heap.size w0 W' := h.trans (hs.mono h.size)
theorem kb_own {w0 W W' : World} {v : Value} {xs : List Int} {base : Nat} (ho : Own base W v xs) (hg : W.grownBy W' v.ownBlock) (hb : w0.heap.size ≤ base) (h : Below w0.heap.size w0 W) : Below w0.heap.size w0 W' := ho.grown_below h hg hb h.size
theorem kb_row {w0 W : World} {v : Value} {xs : List Int} (r : Row w0 v xs) (h : Below w0.heap.size w0 W) : Row W v xs := r.below h
theorem kb_size {w0 W : World} (h : Below w0.heap.size w0 W) : w0.heap.size ≤ W.heap.size := h.size
set_option maxHeartbeats 1000000 in
theorem RBody_any (w : World) (b : Value) (xs : List Int) (h : Row w b xs) :
    Calls Try.prog 43 #[b] w (Wrote w (bodyS xs)) := by
  have hlen := h.lenRun
  by_cases hn : xs.length ≤ 65000
  · rw [show bodyS xs = (bodyB xs, 0) from by unfold bodyS; rw [if_neg (by omega)]]
    have hn' : (xs.length : Int) ≤ 65000 := by omega
    have HB := hide h
    have hfr := fsum_range xs
    have HX := hide hn
    have HL := hide (lenB_length xs)
    have HWL := hide (show IntKind.u64.wrap (xs.length : Int) = xs.length by rw [IntKind.wrap_u64]; omega)
    have hput := refPut_any w (.slice none 0 0) [] (xs.length : Int) 2 (Row.nil _) (by simp) (by omega) (by omega)
    rw [List.nil_append, held2] at hput
    clear h hn
    obtain ⟨fs, hfs⟩ : ∃ z, fsum xs = z := ⟨_, rfl⟩
    rw [hfs] at hfr
    have HFS := hide hfs
    have HWF := hide (show IntKind.u64.wrap fs = fs by rw [IntKind.wrap_u64]; omega)
    clear hfs
    go_enter Try.func43, Try.ntmps43
    go_wp2_with fail
    refine hput.mono ?_
    rintro e w1 ⟨u1, rfl, ho1, hb1⟩
    go_wp2_with (at_builtin; refine wpList_append_row rfl _ _ rfl w.heap.size _ _ (lenB xs) xs rfl ho1 rfl (HB.out.below hb1) (by rw [HL.out]; have := HX.out; omega) hb1.size ?_)
    intro v2 w2 ho2 hg2
    have hb2 : Below w.heap.size w w2 := ho1.grown_below hb1 hg2 (Nat.le_refl _) hb1.size
    have hol : (lenB xs ++ xs).length = xs.length + 2 := by rw [List.length_append, HL.out]; omega
    obtain ⟨g, cap, rfl, hg0, hg1, hgc⟩ := ho2.form (by omega)
    have hcut := ho2.row.cut 2 (by omega)
    rw [List.take_left' HL.out] at hcut
    rw [hol] at hgc
    have hcap2 : (2 : Int) ≤ cap := by omega
    have HR2 := hide ho2.row
    have HC2 := hide hcut
    clear ho1 hg2 hput hcut ho2 hb1
    have HRX := hide (HB.out.below hb2)
    have HFS2 : Hid (sumS (lenB xs ++ xs) = fs) := HFS.out
    have HL3 := hide (show (lenB xs ++ low fs (held 4)).length = 6 by rw [List.length_append, HL.out, low_length]; rfl)
    rw [hol] at HR2 ⊢
    have hb2' := hb2
    clear hol
    go_wp2_with fail
    go_region_held3 (fun w' => Below w2.heap.size w2 w')
      (first
        | assumption
        | exact (Below.refl _ _).drew
        | exact kb_step hb5 (by assumption)
        | exact kb_own ho5' hg6 (Nat.le_refl _) (by assumption)
        | fail)
      (first
        | (go_at_call 60; refine (RSum_any _ _ _ (kb_row HR2.out (by assumption))).mono ?_; rintro e w4 ⟨rfl, rfl⟩; rw [HFS2.out])
        | (go_at_call 59; (try rw [HWF.out]); refine (refPut_any _ _ (lenB xs) fs 4 (kb_row HC2.out (by assumption)) (by rw [HL.out]; omega) hfr.1 (by omega)).mono ?_; rintro e w5 ⟨u5, rfl, ho5, hb5⟩; have ho5' := ho5.mono (kb_size (w0 := w2) (by assumption)))
        | (refine step_append_row (by rfl) _ _ (by rfl) w2.heap.size u5 _ (lenB xs ++ low fs (held 4)) xs (by rfl) ho5' (by rfl) (kb_row HRX.out (by assumption)) (by rw [HL3.out]; have := HX.out; omega) (kb_size (by assumption)) ?_; intro v6 w6 ho6 hg6)
        | fail)
    all_goals
      have hBe : Below w.heap.size w w6 := hb2.trans (Below.mono (by assumption : Below w2.heap.size w2 w6) hb2.size)
      go_wp2
      go_ret2
      refine ⟨_, rfl, ?_, hBe⟩
      unfold bodyB
      rw [HFS.out]
      exact ho6.mono hb2.size
  · rw [show bodyS xs = ([], 21) from by unfold bodyS; rw [if_pos (by omega)]]
    have hn' : (65000 : Int) < xs.length := by omega
    clear h
    go_enter Try.func43, Try.ntmps43
    go_wp2
    go_ret2
    exact ⟨_, rfl, Own.nil _ _, Below.refl _ _⟩
end Go.Proofs.Ytgkgbbffgcmekaa
