/-
  The contracts of package frame: length, sumOf, Body, Size, isErased, first.
-/
import Derived.Test.YtgkgbbffgcmekaaFrameP
import Derived.Test.YtgkgbbffgcmekaaCuts
import Derived.BigQuiet
namespace Go.Proofs.Ytgkgbbffgcmekaa
open Go.RowKit
set_option linter.unusedVariables false

/-! ### the calls -/
theorem row_new2 (w : World) (x y : Int) (hx : 0 ≤ x ∧ x < 256) (hy : 0 ≤ y ∧ y < 256) : Own w.heap.size (w.alloc (.cells #[.int .u8 x, .int .u8 y] 5)) (.slice (some ⟨w.heap.size, 0, none⟩) 2 2) [x, y] := by
  refine ⟨⟨rfl, .inr ⟨w.heap.size, 2, #[.int .u8 x, .int .u8 y], rfl, Nat.le_refl _, Blk.new w _ _, Nat.le_refl _, by unfold maxLen; omega, rfl, rfl⟩⟩, ?_⟩
  intro z hz
  simp at hz
  omega
theorem length_any (w : World) (n : Nat) (hn : n ≤ 65000) :
    Calls Try.prog 62 #[.int .i64 n] w (MadeB w (low (n : Int) 2)) := by
  have e : low (n : Int) 2 = [(n : Int) % 256, (n : Int) / 256] := by simp [low, List.range_succ]; omega
  rw [e]
  go_enter Try.func62, Try.ntmps62
  go_wp2
  go_ret
  exact ⟨_, rfl, row_new2 w ((n : Int) % 256) ((n : Int) / 256) (by omega) (by omega), (Below.refl _ _).alloc (Nat.le_refl _) _⟩
theorem sumOf_any (w : World) (b : Value) (xs : List Int) (h : Row w b xs) (hn : xs.length ≤ 65000) :
    Calls Try.prog 63 #[b] w fun e w' => e = .returned (.int .u32 (fsum xs)) ∧ Below w.heap.size w w' := by
  have hlen := h.lenRun
  have HB := hide h
  have hl := length_any w xs.length hn
  have HL := hide (lenB_length xs)
  clear h
  go_enter Try.func63, Try.ntmps63
  go_wp2_with fail
  refine hl.mono ?_
  rintro e w1 ⟨u1, rfl, ho1, hb1⟩
  go_wp2_with (at_builtin; refine wpList_append_row rfl _ _ rfl w.heap.size _ _ (lenB xs) xs rfl ho1 rfl (HB.out.below hb1) (by rw [HL.out]; omega) hb1.size ?_)
  intro v2 w2 ho2 hg2
  have hb2 : Below w.heap.size w w2 := ho1.grown_below hb1 hg2 (Nat.le_refl _) hb1.size
  clear ho1 hg2 hl
  go_wp2_with fail
  refine (Of_any w2 v2 _ ho2.row).mono ?_
  rintro e w3 ⟨rfl, rfl⟩
  go_wp2
  go_ret
  exact ⟨rfl, hb2⟩
/-- Bytes, and an error. -/
def Wrote (w : World) (r : List Int × Int) (e : Ending) (w' : World) : Prop := ∃ u, e = .returned (.tuple #[u, .int .i64 r.2]) ∧ Own w.heap.size w' u r.1 ∧ Below w.heap.size w w'
theorem Body_any (w : World) (b : Value) (xs : List Int) (h : Row w b xs) :
    Calls Try.prog 45 #[b] w (Wrote w (bodyS xs)) := by
  have hlen := h.lenRun
  by_cases hn : xs.length ≤ 65000
  · rw [show bodyS xs = (bodyB xs, 0) from by unfold bodyS; rw [if_neg (by omega)]]
    have hn' : (xs.length : Int) ≤ 65000 := by omega
    have HB := hide h
    have hl := length_any w xs.length hn
    have hfr := fsum_range xs
    have HX := hide hn
    have HL := hide (lenB_length xs)
    clear h hn
    obtain ⟨fs, hfs⟩ : ∃ z, fsum xs = z := ⟨_, rfl⟩
    rw [hfs] at hfr
    have HFS := hide hfs
    clear hfs
    go_enter Try.func45, Try.ntmps45
    go_wp2_with fail
    refine hl.mono ?_
    rintro e w1 ⟨u1, rfl, ho1, hb1⟩
    go_wp2_with fail
    refine (sumOf_any w1 b xs (HB.out.below hb1) HX.out).mono ?_
    rintro e w2 ⟨rfl, hb2⟩
    rw [HFS.out]
    have hb12 : Below w.heap.size w w2 := hb1.trans (hb2.mono hb1.size)
    have ho2 := ho1.kept hb2
    clear hb1 hb2 ho1 hl
    go_wp2_with fail
    refine (Put_any w2 u1 (lenB xs) fs 4 ho2.row (by rw [HL.out]; omega) hfr.1 (by omega)).mono ?_
    rintro e w3 ⟨u3, rfl, ho3, hb3⟩
    have hb13 : Below w.heap.size w w3 := hb12.trans (hb3.mono hb12.size)
    have HL3 := hide (show (lenB xs ++ low fs (held 4)).length = 6 by rw [List.length_append, HL.out, low_length]; rfl)
    have ho4 := ho3.mono hb12.size
    clear hb12 hb3 ho2 ho3
    go_wp2_with (at_builtin; refine wpList_append_row rfl _ _ rfl w.heap.size _ _ (lenB xs ++ low fs (held 4)) xs rfl ho4 rfl (HB.out.below hb13) (by rw [HL3.out]; have := HX.out; omega) hb13.size ?_)
    intro v5 w5 ho5 hg5
    have hb5 : Below w.heap.size w w5 := ho4.grown_below hb13 hg5 (Nat.le_refl _) hb13.size
    clear ho4 hg5 hb13
    go_wp2
    go_ret2
    refine ⟨_, rfl, ?_, hb5⟩
    unfold bodyB
    rw [HFS.out]
    exact ho5
  · rw [show bodyS xs = ([], 21) from by unfold bodyS; rw [if_pos (by omega)]]
    have hn' : (65000 : Int) < xs.length := by omega
    clear h
    go_enter Try.func45, Try.ntmps45
    go_wp2
    go_ret2
    exact ⟨_, rfl, Own.nil _ _, Below.refl _ _⟩
theorem Size_any (w : World) (n : Int) (hn : -9000000000000000000 ≤ n ∧ n ≤ 9000000000000000000) :
    Calls Try.prog 25 #[.int .i64 n] w fun e w' => e = .returned (.int .i64 (n + 7)) ∧ w' = w := by
  go_enter Try.func25, Try.ntmps25
  go_wp2
  go_ret
  exact ⟨ret_one (congrArg (Value.int .i64) (by omega)), rfl⟩
/-- Are all bytes 255? -/
def clean (xs : List Int) : Bool := xs.all (fun x => x == 255)
theorem isErased_any (w : World) (b : Value) (xs : List Int) (h : Row w b xs) :
    Calls Try.prog 50 #[b] w fun e w' => e = .returned (.bool (clean xs)) ∧ w' = w := by
  have hlm := h.len
  unfold maxLen at hlm
  by_cases h0 : xs = []
  · subst h0
    obtain ⟨ao, cap, rfl⟩ := h.of_len
    simp only [List.length_nil]
    go_enter Try.func50, Try.ntmps50
    go_wp2
    refine wp_loop_rounds 1 ?_
    rw [rounds_succ]
    go_wp2
    go_ret
    exact ⟨rfl, rfl⟩
  · obtain ⟨bl, off, cap, rfl, hlc, hbl, hc⟩ := h.at h0
    generalize hL : xs.length = len at *
    have HL := hide hL
    clear hL h
    go_enter Try.func50, Try.ntmps50
    go_wp2
    go_loop [7] (fun i => ∃ k : Nat, k ≤ len ∧ i = .int .i64 k ∧ clean (xs.take k) = true) (fun i => len - (intOf i).toNat)
    case atStart => exact ⟨0, Nat.zero_le _, rfl, rfl⟩
    case round =>
      obtain ⟨k, hk, rfl, hcl⟩ := hrel
      have HC := hide hcl
      clear hcl
      by_cases hlt : k < len
      · have hck := hc k hlt
        obtain ⟨x, hx⟩ : ∃ x, x = xs.getD k 0 := ⟨_, rfl⟩
        rw [← hx] at hck
        have HX := hide hx
        have hk' : k < xs.length := by rw [HL.out]; exact hlt
        have HK := hide hk'
        clear hx hc hk'
        by_cases he : x = 255
        · subst he
          go_wp2
          go_round
          case rel => exact ⟨k + 1, by omega, by go_num, by rw [take_one_more HK.out, clean, List.all_append, ← HX.out]; simpa [clean] using HC.out⟩
          case measure => simp [intOf]; omega
        · have hne : (x != 255) = true := by simpa using he
          have hd : clean xs = false := by
            unfold clean
            rw [List.all_eq_false]
            refine ⟨x, ?_, by simpa using he⟩
            rw [HX.out]
            simp [List.getD, List.getElem?_eq_getElem HK.out]
          have HD := hide hd
          clear hd he
          go_wp2
          go_ret
          exact ⟨ret_one (congrArg Value.bool HD.out.symm), rfl⟩
      · obtain rfl : k = len := by omega
        have hd : clean xs = true := by
          have := HC.out
          rwa [List.take_of_length_le (by rw [HL.out]; exact Nat.le_refl _)] at this
        have HD := hide hd
        clear hd
        go_wp2
        go_ret
        exact ⟨ret_one (congrArg Value.bool HD.out.symm), rfl⟩
end Go.Proofs.Ytgkgbbffgcmekaa
