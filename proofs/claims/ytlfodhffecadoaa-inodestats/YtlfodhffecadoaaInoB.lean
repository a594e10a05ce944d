/-
  Inodes: strings.IndexByte; isTarget; the document's RightTarget.
-/
import Derived.Lib.Bytealg
import Derived.Shelf.Abstract
import Derived.Test.YtlfodhffecadoaaInoA
import Derived.Test.YtlfodhffecadoaaNameA
namespace Go.Proofs.Ytlfodhffecadoaa
open Go.RowKit
set_option linter.unusedVariables false
set_option maxRecDepth 100000

theorem lite_any (s : ByteArray) (c : Int) (w : World) :
    Calls Try.prog 47 #[.string s, .int .u8 c] w fun e w' => e = .returned (.int .i64 (Lib.indexByte s.data.toList c.toNat.toUInt8)) ∧ w' = w := by
  go_enter Try.func47, Try.ntmps47
  go_wp2
  rw [run_callFunc_extern Try.func48 (by kernel_rfl) (by kernel_rfl) (by kernel_rfl) (e := Extern.BytealgIndexByte.indexByte) (by kernel_rfl), Lib.run_indexByteString]
  simp only [Result.andThen]
  rw [Oper.upon_value]
  go_wp2
  go_ret
  exact ⟨rfl, rfl⟩
theorem idxByte_any (s : ByteArray) (c : Int) (w : World) :
    Calls Try.prog 43 #[.string s, .int .u8 c] w fun e w' => e = .returned (.int .i64 (Lib.indexByte s.data.toList c.toNat.toUInt8)) ∧ w' = w := by
  go_enter Try.func43, Try.ntmps43
  go_wp2_with fail
  refine (lite_any s c w).mono ?_
  rintro e w1 ⟨rfl, rfl⟩
  go_wp2
  go_ret
  exact ⟨rfl, rfl⟩

theorem idx_has (l : List UInt8) (c : UInt8) : decide (Lib.indexByte l c < 0) = !l.contains c := by
  induction l with
  | nil => rfl
  | cons b t ih =>
    have hg := Lib.indexByte_ge t c
    unfold Lib.indexByte
    by_cases h : b = c
    · subst h; simp
    · have h1 : (b == c) = false := by simpa using h
      have h2 : (c == b) = false := by simpa using fun e => h e.symm
      rw [h1, List.contains_cons, h2]
      simp only [Bool.false_or, Bool.false_eq_true, if_false]
      rw [← ih]
      by_cases h3 : Lib.indexByte t c = -1
      · rw [h3]; rfl
      · have h4 : (Lib.indexByte t c == -1) = false := by simpa using h3
        rw [h4]
        simp only [Bool.false_eq_true, if_false]
        rw [decide_eq_false (by omega), decide_eq_false (by omega)]

set_option maxHeartbeats 1000000 in
theorem isTarget_any (w : World) (s : ByteArray) (hs : s.size ≤ maxLen) : Calls Try.prog 39 #[.string s] w fun e w' => e = .returned (.bool (rightT (bl s))) ∧ w' = w := by
  unfold maxLen at hs
  have hx := idxByte_any s 0 w
  have hq : (decide (Lib.indexByte s.data.toList (Int.toNat 0).toUInt8 < 0)) = !(bl s).contains 0 := idx_has (bl s) 0
  have hr : rightT (bl s) = ((decide ((1 : Int) ≤ s.size) && decide ((s.size : Int) ≤ 200)) && decide (Lib.indexByte s.data.toList (Int.toNat 0).toUInt8 < 0)) := by
    rw [hq]
    unfold rightT
    rw [bl_length]
    congr 2 <;> rw [decide_eq_decide] <;> omega
  rw [hr]
  clear hr hq
  generalize Lib.indexByte s.data.toList (Int.toNat 0).toUInt8 = q at *
  by_cases h1 : (1 : Int) ≤ s.size
  · rw [decide_eq_true h1]
    by_cases h2 : (s.size : Int) ≤ 200
    · rw [decide_eq_true h2]
      go_enter Try.func39, Try.ntmps39
      go_wp2_with fail
      refine hx.mono ?_
      rintro e w1 ⟨rfl, rfl⟩
      go_wp2
      go_ret
      exact ⟨rfl, rfl⟩
    · rw [decide_eq_false h2]
      have h2' : (200 : Int) < s.size := by omega
      clear hx h2
      go_enter Try.func39, Try.ntmps39
      go_wp2
      go_ret
      exact ⟨rfl, rfl⟩
  · rw [decide_eq_false h1]
    have h1' : (s.size : Int) < 1 := by omega
    clear hx h1
    go_enter Try.func39, Try.ntmps39
    go_wp2
    go_ret
    exact ⟨rfl, rfl⟩

theorem has_more {l : List UInt8} {k : Nat} (h : k < l.length) (h0 : (l.take k).contains 0 = false) : (l.take (k + 1)).contains 0 = (l[k] == 0) := by
  have e : [l[k]].contains 0 = (l[k] == 0) := by
    rw [Bool.eq_iff_iff, List.contains_iff_mem, List.mem_singleton, beq_iff_eq]
    exact ⟨Eq.symm, Eq.symm⟩
  rw [List.take_succ_eq_append_getElem h, List.contains_append, h0, e]
  rfl
theorem has_yes {l : List UInt8} {k : Nat} (h : (l.take k).contains 0 = true) : rightT l = false := by
  have : l.contains 0 = true := by
    rw [List.contains_iff_mem] at h ⊢
    exact List.mem_of_mem_take h
  unfold rightT
  rw [this]
  simp

set_option maxHeartbeats 2000000 in
theorem RTarget_any (w : World) (s : ByteArray) (hs : s.size ≤ maxLen) : Calls Try.prog 15 #[.string s] w fun e w' => e = .returned (.bool (rightT (bl s))) ∧ w' = w := by
  have hr : rightT (bl s) = ((decide ((1 : Int) ≤ s.size) && decide ((s.size : Int) ≤ 200)) && !(bl s).contains 0) := by
    unfold rightT
    rw [bl_length]
    congr 2 <;> rw [decide_eq_decide] <;> omega
  have HR := hide hr
  clear hr
  unfold maxLen at hs
  go_enter Try.func15, Try.ntmps15
  go_wp2
  go_loop [3] (fun i => ∃ k : Nat, k ≤ s.size ∧ i = .int .i64 k ∧ ((bl s).take k).contains 0 = false) (fun i => s.size - (intOf i).toNat)
  case atStart => exact ⟨0, Nat.zero_le _, rfl, by simp⟩
  case round =>
    obtain ⟨k, hk, rfl, hbk⟩ := hrel
    by_cases hlt : k < s.size
    · have hmore := has_more (by rw [bl_length]; exact hlt) hbk
      have hlt' : (k : Int) < s.size := by omega
      have hu : s[k].toNat < 256 := s[k].toNat_lt
      have e0 : (bl s)[k]'(by rw [bl_length]; exact hlt) = s[k] := rfl
      rw [e0] at hmore
      by_cases h0 : s[k] = 0
      · have hy := hide (has_yes (hmore.trans (by simp [h0])))
        have z0 : (s[k].toNat : Int) = 0 := by rw [h0]; rfl
        clear hmore hbk
        go_wp2
        go_ret
        exact ⟨ret_one (congrArg Value.bool hy.out.symm), rfl⟩
      · have n0 : ((s[k].toNat : Int) == 0) = false := by
          rw [beq_eq_false_iff_ne]
          intro e
          exact h0 (by rw [← UInt8.toNat_inj]; simpa using e)
        have hb : Hid (((bl s).take (k + 1)).contains 0 = false) := hmore.trans (by simp [h0])
        clear hmore hbk
        go_wp2
        exact ⟨⟨k + 1, by omega, by go_num, hb.out⟩, by simp [intOf]; omega⟩
    · obtain rfl : k = s.size := by omega
      rw [List.take_of_length_le (by rw [bl_length]; exact Nat.le_refl _)] at hbk
      have HB := hide hbk
      clear hbk
      by_cases h1 : (1 : Int) ≤ s.size
      · by_cases h2 : (s.size : Int) ≤ 200
        · have HE := hide (show rightT (bl s) = true by rw [HR.out, HB.out, decide_eq_true h1, decide_eq_true h2]; rfl)
          go_wp2
          go_ret
          exact ⟨ret_one (congrArg Value.bool HE.out.symm), rfl⟩
        · have HE := hide (show rightT (bl s) = false by rw [HR.out, HB.out, decide_eq_true h1, decide_eq_false h2]; rfl)
          have h2' : (200 : Int) < s.size := by omega
          have HN := hide (decide_eq_false h2)
          clear h2
          go_wp2
          go_ret
          exact ⟨ret_one (congrArg Value.bool (HN.out.trans HE.out.symm)), rfl⟩
      · have HE := hide (show rightT (bl s) = false by rw [HR.out, HB.out, decide_eq_false h1]; rfl)
        have h1' : (s.size : Int) < 1 := by omega
        clear h1
        go_wp2
        go_ret
        exact ⟨ret_one (congrArg Value.bool HE.out.symm), rfl⟩
end Go.Proofs.Ytlfodhffecadoaa
