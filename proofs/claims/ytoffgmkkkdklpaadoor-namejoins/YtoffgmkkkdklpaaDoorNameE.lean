/-
  The document's Split; two rows of texts held against each other: garrethelp's Plain.
-/
import Derived.Test.YtoffgmkkkdklpaaDoorNameD
import Derived.Deep.RegionWith
namespace Go.Proofs.YtoffgmkkkdklpaaDoor
open Go.RowKit
set_option linter.unusedVariables false
set_option maxRecDepth 100000

set_option maxHeartbeats 2000000 in
theorem RSplit_any (w : World) (s : ByteArray) (hs : s.size ≤ maxLen) : Calls Tryd.prog 10 #[.string s] w (SaysS (splitS (bl s)) w) := by
  have hp := RParts_any w s hs
  have hr : splitS (bl s) = if (partsS (bl s)).2.2 = 0 then (if (partsS (bl s)).2.1 = true then ((partsS (bl s)).1, 0) else ([], 17)) else ([], 17) := rfl
  have he := partsS_err (bl s)
  generalize partsS (bl s) = r at *
  obtain ⟨ns, top, er⟩ := r
  simp only at hr he
  have HR := hide hr
  clear hr hs
  rcases he with rfl | rfl
  · cases top with
    | true =>
      go_enter Tryd.func10, Tryd.ntmps10
      go_wp2_with fail
      refine hp.mono ?_
      rintro e w1 ⟨v, rfl, hv, hb⟩
      go_wp2
      go_ret2
      rw [HR.out]
      exact ⟨_, rfl, hv, hb⟩
    | false =>
      go_enter Tryd.func10, Tryd.ntmps10
      go_wp2_with fail
      refine hp.mono ?_
      rintro e w1 ⟨v, rfl, hv, hb⟩
      go_wp2
      go_ret2
      rw [HR.out]
      exact ⟨_, rfl, SRow.nil _, hb⟩
  · go_enter Tryd.func10, Tryd.ntmps10
    go_wp2_with fail
    refine hp.mono ?_
    rintro e w1 ⟨v, rfl, hv, hb⟩
    go_wp2
    go_ret2
    rw [HR.out]
    exact ⟨_, rfl, SRow.nil _, hb⟩

/-! ### Plain over texts -/
theorem toList_iff {x y : ByteArray} : x.toList = y.toList ↔ x = y := by
  rw [Lib.toList_data, Lib.toList_data]
  exact ⟨fun h => bl_inj h, fun h => by rw [h]⟩
theorem oneS_any (w : World) (x y : ByteArray) : Calls Tryd.prog 20 #[.string x, .string y] w fun e w' => e = .returned (.bool (decide (x = y))) ∧ w' = w := by
  by_cases h : x = y
  · subst h
    rw [decide_eq_true rfl]
    go_enter Tryd.func20, Tryd.ntmps20
    go_wp2
    go_ret
    exact ⟨rfl, rfl⟩
  · rw [decide_eq_false h]
    have hn : (x.toList == y.toList) = false := beq_eq_false_iff_ne.2 (fun e => h (toList_iff.1 e))
    clear h
    go_enter Tryd.func20, Tryd.ntmps20
    go_wp2
    go_ret
    exact ⟨rfl, rfl⟩

theorem take_alike {xs ys : List ByteArray} {k : Nat} (hx : k < xs.length) (hy : k < ys.length) (h : xs.take k = ys.take k) (e : xs.getD k ByteArray.empty = ys.getD k ByteArray.empty) : xs.take (k + 1) = ys.take (k + 1) := by
  rw [List.take_succ_eq_append_getElem hx, List.take_succ_eq_append_getElem hy, h]
  congr 2
  simpa [List.getD, List.getElem?_eq_getElem hx, List.getElem?_eq_getElem hy] using e

set_option maxHeartbeats 4000000 in
theorem SameS_any (w : World) (a b : Value) (xs ys : List ByteArray) (ha : SRow w a xs) (hb : SRow w b ys) :
    Calls Tryd.prog 19 #[a, b, .func (.func 20) #[] #[]] w (SaysB (decide (xs = ys)) w) := by
  have hla := ha.lenRun
  have hlb := hb.lenRun
  have hxm := ha.len
  unfold maxLen at hxm
  have HA := hide ha
  have HB := hide hb
  clear ha hb
  by_cases hn : xs.length = ys.length
  · obtain ⟨len, hL⟩ : ∃ n, xs.length = n := ⟨_, rfl⟩
    have HX := hide hL
    have HY := hide (hn.symm.trans hL)
    simp only [← hn] at hlb
    rw [hL] at hxm
    simp only [hL] at hla hlb
    clear hL hn
    go_enter Tryd.func19, Tryd.ntmps19
    go_wp2
    go_loopw [7] (fun i wr => ∃ k : Nat, k ≤ len ∧ i = .int .i64 k ∧ xs.take k = ys.take k ∧ Below w.heap.size w wr) (fun i _ => len - (intOf i).toNat)
    case atStart => exact ⟨0, Nat.zero_le _, rfl, by simp, Below.refl _ _⟩
    case round =>
      obtain ⟨k, hk, rfl, htk, hbk⟩ := hrel
      have HT := hide htk
      clear htk
      by_cases hlt : k < len
      · have hlt' : (k : Int) < len := by omega
        have hkx : k < xs.length := by rw [HX.out]; exact hlt
        have hky : k < ys.length := by rw [HY.out]; exact hlt
        have hra : SRow wr a xs := HA.out.below hbk
        have hrb : SRow wr b ys := HB.out.below hbk
        obtain ⟨ba, oa, _, hia, a0⟩ := hra.idx k hkx
        obtain ⟨bb, ob, _, hib, b0⟩ := hrb.idx k hky
        have hmt := take_alike hkx hky HT.out
        have hmf : xs.getD k ByteArray.empty ≠ ys.getD k ByteArray.empty → decide (xs = ys) = false := fun h => decide_eq_false (fun e => h (by rw [e]))
        generalize xs.getD k ByteArray.empty = x at *
        generalize ys.getD k ByteArray.empty = y at *
        have hon := fun w => oneS_any w x y
        have HMT := hide hmt
        have HMF := hide hmf
        have HBK := hide hbk
        clear hmt hmf hbk hra hrb
        generalize hd : decide (x = y) = d at *
        have HD := hide hd
        clear hd
        cases d with
        | true =>
          have HN := hide (HMT.out (of_decide_eq_true HD.out))
          go_wp2_with fail
          go_region_with (go_at_call 20; refine (hon _).mono ?_; rintro e w' ⟨rfl, rfl⟩)
          all_goals
            go_wp2
            exact ⟨⟨k + 1, by omega, by go_num, HN.out, HBK.out.drew⟩, by simp [intOf]; omega⟩
        | false =>
          have HN := hide (HMF.out (of_decide_eq_false HD.out))
          go_wp2_with fail
          go_region_with (go_at_call 20; refine (hon _).mono ?_; rintro e w' ⟨rfl, rfl⟩)
          all_goals
            go_wp2
            go_ret
            exact ⟨ret_one (congrArg Value.bool HN.out.symm), HBK.out.drew⟩
      · obtain rfl : k = len := by omega
        have HD := hide (show decide (xs = ys) = true from decide_eq_true (by
          have := HT.out
          rwa [List.take_of_length_le (by rw [HX.out]; exact Nat.le_refl _), List.take_of_length_le (by rw [HY.out]; exact Nat.le_refl _)] at this))
        go_wp2
        go_ret
        exact ⟨ret_one (congrArg Value.bool HD.out.symm), hbk⟩
  · have hne : ((xs.length : Int) != (ys.length : Int)) = true := by simp; omega
    rw [show decide (xs = ys) = false from decide_eq_false (fun e => hn (by rw [e]))]
    generalize xs.length = n at *
    generalize ys.length = m at *
    clear hn
    go_enter Tryd.func19, Tryd.ntmps19
    go_wp2
    go_ret
    exact ⟨rfl, Below.refl _ _⟩

theorem PlainS_any (w : World) (a b : Value) (xs ys : List ByteArray) (ha : SRow w a xs) (hb : SRow w b ys) :
    Calls Tryd.prog 15 #[a, b] w (SaysB (decide (xs = ys)) w) := by
  have hs := SameS_any w a b xs ys ha hb
  generalize decide (xs = ys) = d at *
  clear ha hb
  go_enter Tryd.func15, Tryd.ntmps15
  go_wp2_with fail
  refine hs.mono ?_
  rintro e w1 ⟨rfl, hb1⟩
  go_wp2
  go_ret
  exact ⟨rfl, hb1⟩
end Go.Proofs.YtoffgmkkkdklpaaDoor
