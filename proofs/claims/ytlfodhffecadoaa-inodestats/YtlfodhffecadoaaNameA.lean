/-
  The contracts of package name: isSized, hasBarred, Right; and the document's RightName.
-/
import Derived.Test.YtlfodhffecadoaaStrs
import Derived.Test.YtlfodhffecadoaaNameP
import Derived.Test.YtlfodhffecadoaaSays
import Derived.Laws.Tables
namespace Go.Proofs.Ytlfodhffecadoaa
open Go.RowKit
set_option linter.unusedVariables false
set_option maxRecDepth 100000


/-! ### isSized -/
theorem isSized_any (w : World) (s : ByteArray) (n : Int) (hs : s.size ≤ maxLen) : Calls Try.prog 45 #[.string s, .int .i64 n] w fun e w' => e = .returned (.bool (decide (1 ≤ (s.size : Int) ∧ (s.size : Int) ≤ n))) ∧ w' = w := by
  unfold maxLen at hs
  by_cases h1 : (1 : Int) ≤ s.size
  · have e : decide (1 ≤ (s.size : Int) ∧ (s.size : Int) ≤ n) = decide ((s.size : Int) ≤ n) := by simp [h1]
    rw [e]
    clear e
    go_enter Try.func45, Try.ntmps45
    go_wp2
    go_ret
    exact ⟨rfl, rfl⟩
  · have e : decide (1 ≤ (s.size : Int) ∧ (s.size : Int) ≤ n) = false := by simp [h1]
    rw [e]
    have d : decide ((1 : Int) ≤ s.size) = false := by simpa using h1
    clear e h1
    go_enter Try.func45, Try.ntmps45
    go_wp2
    go_ret
    exact ⟨rfl, rfl⟩

/-! ### hasBarred -/
/-- The array of the barred bytes. -/
def barC : Array Value := ((List.range 256).map fun i => Value.bool (i == 0 || i == 47)).toArray
def zerC : Array Value := ((List.range 256).map fun i => Value.bool false).toArray
theorem barC_size : barC.size = 256 := by simp [barC]
theorem zerC_size : zerC.size = 256 := by simp [zerC]
theorem barC_at {k : Nat} (h : k < 256) : barC[k]? = some (.bool (k == 0 || k == 47)) := by simp [barC, h]
theorem bar_built : Try.prog.built 73 [(0, .bool true), (47, .bool true)] = some barC := by kernel_rfl
theorem zer_zero (w : World) : (zeroValue 73).run Try.prog w = .ok (.agg zerC) w := by kernel_rfl
theorem arr_info : (Try.prog.info? 73).map (·.size) = some barC.size := by kernel_rfl
theorem arr_one : barC.all (·.oneCell') = true := by kernel_rfl

theorem setRow_new (w : World) (old cs : Array Value) (t : TypeId) : (w.alloc (.cells old t)).setRow w.heap.size cs = w.alloc (.cells cs t) := by
  unfold World.setRow World.alloc
  congr 1
  apply Array.ext
  · simp
  · intro k h1 h2
    simp only [Array.getElem_modify]
    split
    · rename_i hk
      subst hk
      simp
    · rename_i hk
      have : k < w.heap.size := by simp at h1; omega
      simp [Array.getElem_push, this]
theorem bar_store (w : World) : (storeCells ⟨w.heap.size, 0, none⟩ ((zerC.toList.set 0 (Value.bool true)).set 47 (Value.bool true))).run Try.prog (w.alloc (.cells zerC 73)) = .ok () (w.alloc (.cells barC 73)) := by
  have e : (zerC.toList.set 0 (Value.bool true)).set 47 (Value.bool true) = barC.toList := by kernel_rfl
  rw [e, run_storeCells_from w.heap.size 73 barC.toList 0 zerC _ (Blk.new w _ _) (by rw [zerC_size, Array.length_toList, barC_size]) (fun v hv => (Array.all_eq_true_iff_forall_mem.1 arr_one) v (by simpa using hv)), List.take_zero, List.nil_append, Array.toArray_toList, setRow_new]

set_option maxHeartbeats 2000000 in
theorem hasBarred_any (w : World) (s : ByteArray) (hs : s.size ≤ maxLen) : Calls Try.prog 46 #[.string s] w (SaysB (barS (bl s)) w) := by
  unfold maxLen at hs
  have hz := zer_zero
  have hst := bar_store w
  go_enter Try.func46, Try.ntmps46
  go_wp2
  clear hz hst
  obtain ⟨W, hW⟩ : ∃ W, W = w.alloc (.cells barC 73) := ⟨_, rfl⟩
  have hB : Below w.heap.size w W := by rw [hW]; exact kl_alloc w _
  have hC : Blk W w.heap.size barC 73 := by rw [hW]; exact Blk.new w _ _
  rw [← hW]
  clear hW
  generalize hg : w.heap.size = g at *
  have HG := hide hg
  clear hg
  have HB := hide hB
  have HC := hide hC
  clear hB hC
  go_loop [8] (fun i => ∃ k : Nat, k ≤ s.size ∧ i = .int .i64 k ∧ barS ((bl s).take k) = false) (fun i => s.size - (intOf i).toNat)
  case atStart => exact ⟨0, Nat.zero_le _, rfl, by simp [barS]⟩
  case round =>
    obtain ⟨k, hk, rfl, hbk⟩ := hrel
    by_cases hlt : k < s.size
    · have hmore := barS_more (by rw [bl_length]; exact hlt) hbk
      have hlt' : (k : Int) < s.size := by omega
      have hc : W.cell? ⟨g, s[k].toNat, none⟩ = some (.bool (barS ((bl s).take (k + 1)))) := by
        rw [HC.out.cell, barC_at s[k].toNat_lt, hmore]
        congr 2
        show (s[k].toNat == 0 || s[k].toNat == 47) = (s[k] == 0 || s[k] == 47)
        rw [Bool.eq_iff_iff]
        simp [← UInt8.toNat_inj]
      clear hmore
      have hu : s[k].toNat < 256 := s[k].toNat_lt
      cases hb : barS ((bl s).take (k + 1)) with
      | false =>
        rw [hb] at hc
        go_wp2
        exact ⟨⟨k + 1, by omega, by go_num, hb⟩, by simp [intOf]; omega⟩
      | true =>
        rw [hb] at hc
        have hy := hide (barS_yes hb)
        clear hb
        go_wp2
        go_ret
        exact ⟨ret_one (congrArg Value.bool hy.out.symm), by rw [HG.out]; exact HB.out⟩
    · obtain rfl : k = s.size := by omega
      rw [List.take_of_length_le (by rw [bl_length]; exact Nat.le_refl _)] at hbk
      have hy := hide hbk
      clear hbk
      go_wp2
      go_ret
      exact ⟨ret_one (congrArg Value.bool hy.out.symm), by rw [HG.out]; exact HB.out⟩

/-! ### Right -/
theorem eq_oneDot (s : ByteArray) : s = ⟨#[46]⟩ ↔ bl s = [46] := ⟨fun h => by rw [h]; rfl, fun h => bl_inj (h.trans rfl)⟩
theorem eq_twoDots (s : ByteArray) : s = ⟨#[46, 46]⟩ ↔ bl s = [46, 46] := ⟨fun h => by rw [h]; rfl, fun h => bl_inj (h.trans rfl)⟩
theorem eq_empty (s : ByteArray) : s = ⟨#[]⟩ ↔ bl s = [] := ⟨fun h => by rw [h]; rfl, fun h => bl_inj (h.trans rfl)⟩

set_option maxHeartbeats 2000000 in
theorem Right_any (w : World) (s : ByteArray) (hs : s.size ≤ maxLen) : Calls Try.prog 42 #[.string s] w (SaysB (rightN (bl s)) w) := by
  have hz := isSized_any w s 32 hs
  have hb := hasBarred_any w s hs
  rw [rightN_eq]
  unfold maxLen at hs
  have e0 : (decide (1 ≤ (bl s).length) && decide ((bl s).length ≤ 32)) = decide (1 ≤ (s.size : Int) ∧ (s.size : Int) ≤ 32) := by
    rw [bl_length, Bool.eq_iff_iff]; simp; omega
  rw [e0]
  generalize decide (1 ≤ (s.size : Int) ∧ (s.size : Int) ≤ 32) = z at *
  generalize barS (bl s) = b at *
  clear e0
  cases z with
  | false =>
    go_enter Try.func42, Try.ntmps42
    go_wp2_with fail
    refine hz.mono ?_
    rintro e w1 ⟨rfl, rfl⟩
    go_wp2
    go_ret
    exact ⟨rfl, Below.refl _ _⟩
  | true =>
    cases b with
    | true =>
      go_enter Try.func42, Try.ntmps42
      go_wp2_with fail
      refine hz.mono ?_
      rintro e w1 ⟨rfl, rfl⟩
      go_wp2_with fail
      refine hb.mono ?_
      rintro e w2 ⟨rfl, hb2⟩
      go_wp2
      go_ret
      exact ⟨rfl, hb2⟩
    | false =>
      have hl := Lib.toList_data s
      by_cases h1 : bl s = [46]
      · have k1 : s.toList = [46] := hl.trans h1
        rw [h1]
        clear h1 hl
        go_enter Try.func42, Try.ntmps42
        go_wp2_with fail
        refine hz.mono ?_
        rintro e w1 ⟨rfl, rfl⟩
        go_wp2_with fail
        refine hb.mono ?_
        rintro e w2 ⟨rfl, hb2⟩
        go_wp2
        go_ret
        exact ⟨rfl, hb2⟩
      · have k1 : (s.toList == [46]) = false := beq_eq_false_iff_ne.2 (fun e => h1 (hl.symm.trans e))
        have e1 : decide (bl s ≠ [46]) = true := decide_eq_true h1
        have e2 : decide (bl s ≠ [46, 46]) = !(s.toList == [46, 46]) := by
          rw [hl]
          unfold bl
          by_cases h : s.data.toList = [46, 46] <;> simp [h]
        rw [e1, e2]
        clear e1 e2 h1 hl
        generalize hq : (s.toList == [46, 46]) = q
        go_enter Try.func42, Try.ntmps42
        go_wp2_with fail
        refine hz.mono ?_
        rintro e w1 ⟨rfl, rfl⟩
        go_wp2_with fail
        refine hb.mono ?_
        rintro e w2 ⟨rfl, hb2⟩
        go_wp2
        go_ret
        exact ⟨rfl, hb2⟩

/-! ### the document's RightName -/
set_option maxHeartbeats 2000000 in
theorem RRight_any (w : World) (s : ByteArray) (hs : s.size ≤ maxLen) : Calls Try.prog 26 #[.string s] w fun e w' => e = .returned (.bool (rightN (bl s))) ∧ w' = w := by
  have hr := rightN_eq (bl s)
  rw [bl_length] at hr
  have HR := hide hr
  clear hr
  unfold maxLen at hs
  go_enter Try.func26, Try.ntmps26
  go_wp2
  go_loop [3] (fun i => ∃ k : Nat, k ≤ s.size ∧ i = .int .i64 k ∧ barS ((bl s).take k) = false) (fun i => s.size - (intOf i).toNat)
  case atStart => exact ⟨0, Nat.zero_le _, rfl, by simp [barS]⟩
  case round =>
    obtain ⟨k, hk, rfl, hbk⟩ := hrel
    by_cases hlt : k < s.size
    · have hmore := barS_more (by rw [bl_length]; exact hlt) hbk
      have hlt' : (k : Int) < s.size := by omega
      have hu : s[k].toNat < 256 := s[k].toNat_lt
      have e0 : (bl s)[k]'(by rw [bl_length]; exact hlt) = s[k] := rfl
      rw [e0] at hmore
      by_cases h0 : s[k] = 0
      · have hy := hide (rightN_bar (barS_yes (hmore.trans (by simp [h0]))))
        have z0 : (s[k].toNat : Int) = 0 := by rw [h0]; rfl
        clear hmore hbk
        go_wp2
        go_ret
        exact ⟨ret_one (congrArg Value.bool hy.out.symm), rfl⟩
      · have n0 : ((s[k].toNat : Int) == 0) = false := by
          rw [beq_eq_false_iff_ne]
          intro e
          exact h0 (by rw [← UInt8.toNat_inj]; simpa using e)
        by_cases h1 : s[k] = 47
        · have hy := hide (rightN_bar (barS_yes (hmore.trans (by simp [h1]))))
          have z0 : (s[k].toNat : Int) = 47 := by rw [h1]; rfl
          clear hmore hbk
          go_wp2
          go_ret
          exact ⟨ret_one (congrArg Value.bool hy.out.symm), rfl⟩
        · have n1 : ((s[k].toNat : Int) == 47) = false := by
            rw [beq_eq_false_iff_ne]
            intro e
            exact h1 (by rw [← UInt8.toNat_inj]; show s[k].toNat = 47; omega)
          have hb : Hid (barS ((bl s).take (k + 1)) = false) := hmore.trans (by simp [h0, h1])
          clear hmore hbk
          go_wp2
          exact ⟨⟨k + 1, by omega, by go_num, hb.out⟩, by simp [intOf]; omega⟩
    · obtain rfl : k = s.size := by omega
      rw [List.take_of_length_le (by rw [bl_length]; exact Nat.le_refl _)] at hbk
      have hy := HR.out
      rw [hbk] at hy
      have hl := Lib.toList_data s
      clear hbk
      by_cases c1 : (1 : Int) ≤ s.size
      · by_cases c2 : (s.size : Int) ≤ 32
        · rw [decide_eq_true (show 1 ≤ s.size by omega), decide_eq_true (show s.size ≤ 32 by omega)] at hy
          by_cases h1 : bl s = [46]
          · have k1 : s.toList = [46] := hl.trans h1
            have hy' := hide (hy.trans (by rw [h1]; rfl) : rightN (bl s) = false)
            clear h1 hl hy
            go_wp2
            go_ret
            exact ⟨ret_one (congrArg Value.bool hy'.out.symm), rfl⟩
          · have k1 : (s.toList == [46]) = false := beq_eq_false_iff_ne.2 (fun e => h1 (hl.symm.trans e))
            have e1 : decide (bl s ≠ [46]) = true := decide_eq_true h1
            have e2 : decide (bl s ≠ [46, 46]) = !(s.toList == [46, 46]) := by
              rw [hl]
              unfold bl
              by_cases h : s.data.toList = [46, 46] <;> simp [h]
            rw [e1, e2] at hy
            generalize hq : (s.toList == [46, 46]) = q at *
            have hy' := hide (hy.trans (by simp) : rightN (bl s) = !q)
            clear e1 e2 h1 hl hy
            go_wp2
            go_ret
            exact ⟨ret_one (congrArg Value.bool hy'.out.symm), rfl⟩
        · have hy' := hide (hy.trans (by simp; omega) : rightN (bl s) = false)
          have d : decide ((s.size : Int) ≤ 32) = false := by simpa using c2
          clear hy hl
          go_wp2
          go_ret
          exact ⟨ret_one (congrArg Value.bool hy'.out.symm), rfl⟩
      · have hy' := hide (hy.trans (by simp; omega) : rightN (bl s) = false)
        have d : decide ((1 : Int) ≤ s.size) = false := by simpa using c1
        clear hy hl
        go_wp2
        go_ret
        exact ⟨ret_one (congrArg Value.bool hy'.out.symm), rfl⟩
end Go.Proofs.Ytlfodhffecadoaa
