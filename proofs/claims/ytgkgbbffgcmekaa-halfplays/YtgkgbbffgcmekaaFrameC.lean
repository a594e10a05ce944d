/-
  The contracts of package frame: Scan.
-/
import Derived.Test.YtgkgbbffgcmekaaFrameB
import Derived.Test.YtgkgbbffgcmekaaVals
namespace Go.Proofs.Ytgkgbbffgcmekaa
open Go.RowKit
set_option linter.unusedVariables false
set_option maxRecDepth 100000

theorem eqNil7 (w : World) (a : Option Addr) (n c : Nat) : (binOp .eql 38 (.slice a n c) (.slice none 0 0)).run Try.prog w = .ok (.bool a.isNone) w := Lib.run_eql_slice_nil w _ _ a n c 0 0 Try.underlying38
theorem own_empty7 (w : World) : Own w.heap.size (w.alloc (.cells #[] 5)) (.slice (some ⟨w.heap.size, 0, none⟩) 0 0) [] := by
  refine ⟨⟨rfl, .inr ⟨w.heap.size, 0, #[], rfl, Nat.le_refl _, ?_, Nat.le_refl _, Nat.zero_le _, rfl, rfl⟩⟩, Bys.nil⟩
  exact Blk.new w #[] 5
theorem Clone7_any (w : World) (b p k cap : Nat) (xs : List Int) (h : Row w (.slice (some ⟨b, p, none⟩) k cap) xs) (hk : k < 1000000) :
    Calls Try.prog 51 #[.slice (some ⟨b, p, none⟩) k cap] w fun e w' => ∃ v, e = .returned v ∧ Own w.heap.size w' v xs ∧ Below w.heap.size w w' := by
  have hx : k = xs.length := h.caps.1
  have HX := hide hx
  clear hx
  have h1 := eqNil7 w (some ⟨b, p, none⟩) k cap
  simp at h1
  have hb : Below w.heap.size w (w.alloc (.cells #[] 5)) := (Below.refl _ _).alloc (Nat.le_refl _) _
  have h2 := h.below hb
  go_enter Try.func51, Try.ntmps51
  go_wp2_with (at_builtin; refine wpList_append_row rfl _ _ rfl w.heap.size _ _ [] xs rfl (own_empty7 w) rfl h2 (by have := HX.out; simp; omega) (by simp) ?_)
  intro v' w' hown hg
  have hB : Below w.heap.size w w' := hb.grown hg (by simp) (fun k e => by cases e; exact Nat.le_refl _)
  try rw [List.nil_append] at hown
  have hlen := hown.row.of_len
  obtain ⟨ao, c2, rfl⟩ := hlen
  go_wp2
  go_ret
  exact ⟨_, rfl, hown, hB⟩

/-- What Scan answers. -/
def Scanned (w : World) (xs : List Int) (e : Ending) (w' : World) : Prop :=
  ∃ (v : Value) (us : List Value) (bss : List (List Int)) (n : Nat), e = .returned (.tuple #[v, .int .i64 (n : Int), .bool (clean (xs.drop n))]) ∧ VOwn w.heap.size w' v us ∧ Owns w.heap.size w' us bss ∧ ScanEnd xs bss n ∧ Below w.heap.size w w'

set_option maxHeartbeats 1000000 in
theorem Scan_any (w : World) (v : Value) (xs : List Int) (h : Row w v xs) (hn : xs.length ≤ 1000000000) :
    Calls Try.prog 26 #[v] w (Scanned w xs) := by
  have HR := hide h
  clear h
  go_enter Try.func26, Try.ntmps26
  go_wp2
  go_loopw [5, 6] (fun l i wr => ∃ (us : List Value) (bss : List (List Int)) (n : Nat), i = .int .i64 n ∧ VOwn w.heap.size wr l us ∧ Owns w.heap.size wr us bss ∧ Seen xs bss n ∧ Below w.heap.size w wr) (fun _ i _ => xs.length - (intOf i).toNat)
  case atStart => exact ⟨[], [], 0, rfl, VOwn.nil _ _, Owns.nil _ _, .none, Below.refl _ _⟩
  case round =>
    obtain ⟨us, bss, n, rfl, hv, ho, hs, hb⟩ := hrel
    have hle := hs.le
    have hr := HR.out.below hb
    obtain ⟨v', hsl, hr'⟩ := hr.from n hle.1
    have HS := hide hs
    have HO := hide ho
    have HV := hide hv
    have HR' := hide hr'
    clear hs ho hv hr'
    go_wp2_with fail
    refine (first_any wr v' _ HR'.out).mono ?_
    rintro e w1 ⟨hf, hb1⟩
    unfold FirstA at hf
    cases hfs : firstS (xs.drop n) with
    | none =>
      rw [hfs] at hf
      obtain ⟨u, rfl⟩ := hf
      have HF := hide hfs
      have hr1 := HR'.out.below hb1
      have hB1 : Below w.heap.size w w1 := hb.trans (hb1.mono hb.size)
      have HV1 := hide (HV.out.kept hb1)
      have HO1 := hide (HO.out.kept hb1)
      have HR1 := hide hr1
      clear hfs hr1 hb1 HV HO
      go_wp2_with fail
      refine (isErased_any w1 v' _ HR1.out).mono ?_
      rintro e w2 ⟨rfl, rfl⟩
      go_wp2
      go_ret3
      exact ⟨_, us, bss, n, rfl, HV1.out, HO1.out, ⟨HS.out, HF.out⟩, hB1⟩
    | some b =>
      rw [hfs] at hf
      obtain ⟨g, off, cap, rfl, hrb⟩ := hf
      have hfx := firstS_some hfs
      have HF := hide hfs
      have hbl : b.length ≤ 65000 := by omega
      have HRB := hide (hrb.below hb1)
      have hB1 : Below w.heap.size w w1 := hb.trans (hb1.mono hb.size)
      have HV1 := hide (HV.out.kept hb1)
      have HO1 := hide (HO.out.kept hb1)
      have hln : n + (b.length + 7) ≤ xs.length := by have := hfx.2.2.1; have := hfx.2.2.2.2.2.2; simp at *; omega
      have hbl' : (b.length : Int) ≤ 65000 := by omega
      clear hfs hrb hb1 hb HV HO hfx
      go_wp2_with fail
      refine (Clone7_any w1 g off _ cap b HRB.out (by omega)).mono ?_
      rintro e w2 ⟨u, rfl, hou, hb2⟩
      have hB2 : Below w.heap.size w w2 := hB1.trans (hb2.mono hB1.size)
      have HV2 := hide (HV1.out.kept hb2)
      have HO2 := hide (HO1.out.kept hb2)
      have hul : ∃ a n c, u = .slice a n c := by obtain ⟨a, c, e⟩ := hou.row.of_len; exact ⟨_, _, _, e⟩
      have HOU := hide (hou.mono hB1.size)
      have hB3 : Below w.heap.size w (w2.alloc (.cells #[u] 38)) := hB2.alloc hB2.size _
      clear hB1 HV1 HO1 hou
      obtain ⟨ua, un, uc, rfl⟩ := hul
      have hul2 : us.length + 1 ≤ 1000000000000 := by rw [HO2.out.1]; omega
      go_wp2_with (at_builtin; refine wpList_append_vals rfl _ _ rfl w.heap.size _ _ us [.slice ua un uc] rfl (HV2.out.alloc _) rfl (vals_new1 w2 _) (by intro u hu; simp at hu; exact ⟨_, _, _, hu⟩) hul2 hB3.size ?_)
      intro v3 w3 hv3 hg3
      have hB4 : Below w.heap.size w w3 := (HV2.out.alloc _).grown_below hB3 hg3 (Nat.le_refl _) hB3.size
      have HO3 := hide (((HO2.out.kept ((Below.refl _ _).alloc (Nat.le_refl _) (.cells #[.slice ua un uc] 38))).snoc (HOU.out.kept ((Below.refl _ _).alloc (Nat.le_refl _) (.cells #[.slice ua un uc] 38)))).besides (HV2.out.alloc _) hg3)
      have HV3 := hide hv3
      clear hv3 hg3 HO2 HV2 hB3 hB2
      go_wp2_with fail
      refine (Size_any _ _ (by omega)).mono ?_
      rintro e w4 ⟨rfl, rfl⟩
      go_wp2
      exact ⟨⟨us ++ [.slice ua un uc], bss ++ [b], n + (b.length + 7), by go_num, HV3.out, HO3.out, HS.out.more HF.out, hB4⟩, by simp [intOf]; omega⟩
theorem Scan_known {w : World} {v : Value} {xs : List Int} (h : Row w v xs) (hn : xs.length ≤ 1000000000) {cs : List (List Int)} {m : Nat} (hf : Found xs cs m) :
    Calls Try.prog 26 #[v] w fun e w' => ∃ u us, e = .returned (.tuple #[u, .int .i64 (m : Int), .bool (clean (xs.drop m))]) ∧ VOwn w.heap.size w' u us ∧ Owns w.heap.size w' us cs ∧ Below w.heap.size w w' := by
  refine (Scan_any w v xs h hn).mono ?_
  rintro e w' ⟨u, us, bss, n, rfl, h1, h2, h3, h4⟩
  obtain ⟨rfl, rfl⟩ := h3.found.uniq hf
  exact ⟨u, us, rfl, h1, h2, h4⟩
theorem found_one (b : List Int) (hl : b.length ≤ 65000) : Found (recB b) [b] (b.length + 7) := by
  have := found_recs (bs := [b]) (rest := []) (fun c hc => by simp at hc; subst hc; exact hl) (.stop firstS_nil)
  simpa [recs, recB_length] using this
end Go.Proofs.Ytgkgbbffgcmekaa
