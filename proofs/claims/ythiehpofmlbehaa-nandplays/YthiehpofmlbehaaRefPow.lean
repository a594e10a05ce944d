/-
  The document's own power (garretref01): its methods make of it what the program's make of theirs.
-/
import Derived.Test.YthiehpofmlbehaaPowA
import Derived.BigQuiet
import Derived.Deep.QuietTactic
namespace Go.Proofs.Ythiehpofmlbehaa
open Go.RowKit
set_option linter.unusedVariables false

def rcells (S : PSt) (v : Value) : Array Value := #[.bool S.off, .int .i64 (if S.armed then S.left else -1), .int .u8 S.mask, .int .i64 S.steps, v]

/-- The document's power in block c is S. -/
def RPow (base : Nat) (w : World) (c : Nat) (S : PSt) : Prop :=
  ∃ v, Blk w c (rcells S v) 42 ∧ IRow .i64 w v S.fails ∧ (∀ b off n cap, v = .slice (some ⟨b, off, none⟩) n cap → base ≤ b) ∧ c < base

theorem RPow.kept {base c : Nat} {w w' : World} {S : PSt} {r : Option Nat} (h : RPow base w c S) (hg : w.grownBy w' r) (hr : ∀ k, r = some k → k < base ∧ k ≠ c) : RPow base w' c S := by
  obtain ⟨v, h1, h2, h3, h4⟩ := h
  refine ⟨v, h1.kept hg (fun e => (hr c e.symm).2 rfl), h2.grown hg (fun b off n cap hv e => ?_), h3, h4⟩
  have := h3 b off n cap hv
  have := (hr b e.symm).1
  omega

theorem RNew_any (w : World) : Calls Try.prog 7 #[] w fun e w' => e = .returned (.pointer (some ⟨w.heap.size, 0, none⟩)) ∧ w' = w.alloc (.cells (rcells PSt.zero (.slice none 0 0)) 42) := by
  go_enter Try.func7, Try.ntmps7
  go_wp2
  go_ret
  exact ⟨rfl, rfl⟩

theorem RPow.new (w : World) (base : Nat) (hb : w.heap.size < base) : RPow base (w.alloc (.cells (rcells PSt.zero (.slice none 0 0)) 42)) w.heap.size PSt.zero :=
  ⟨_, Blk.new _ _ _, IRow.nil _ _, (fun b off n cap h => by simp at h), hb⟩

theorem IRow.setCell {base c i : Nat} {w : World} {k : IntKind} {v u : Value} {xs : List Int} (h : IRow k w v xs) (h3 : ∀ b off n cap, v = .slice (some ⟨b, off, none⟩) n cap → base ≤ b) (hc : c < base) : IRow k (w.setCell ⟨c, i, none⟩ u) v xs :=
  h.grown (grown_setCell w c i u) (fun b off n cap hv e => by have := h3 b off n cap hv; simp at e; omega)

theorem RCut_any (base : Nat) (w : World) (c : Nat) (S : PSt) (left mask : Int) (h : RPow base w c S) :
    Calls Try.prog 16 #[.pointer (some ⟨c, 0, none⟩), .int .i64 left, .int .u8 mask] w fun e w' => e = .returned (.tuple #[]) ∧ RPow base w' c (S.cut left mask) ∧ w.grownBy w' (some c) := by
  obtain ⟨v, hb, hv, hf, hlt⟩ := h
  have c1 := hb.cell 1
  have c2 := hb.cell 2
  have f1 := hb.frozen 1
  have f2 := hb.frozen 2
  simp [rcells] at c1 c2
  generalize (if S.armed = true then S.left else -1) = z at c1
  by_cases hn : left ≤ -1
  · have hd : decide (0 ≤ left) = false := by simp; omega
    go_enter Try.func16, Try.ntmps16
    go_wp2
    go_end0
    refine ⟨rfl, ⟨v, ?_, (hv.setCell hf hlt).setCell hf hlt, hf, hlt⟩, ?_⟩
    · have := (hb.set 1 (.int .i64 (-1))).set 2 (.int .u8 mask)
      simpa [rcells, PSt.cut, hd] using this
    · exact grown_trans (grown_setCell _ c 1 _) (grown_setCell _ c 2 _)
  · have hd : decide (0 ≤ left) = true := by simp; omega
    have hn' : 0 ≤ left := by omega
    go_enter Try.func16, Try.ntmps16
    go_wp2
    go_end0
    refine ⟨rfl, ⟨v, ?_, (hv.setCell hf hlt).setCell hf hlt, hf, hlt⟩, ?_⟩
    · have := (hb.set 1 (.int .i64 left)).set 2 (.int .u8 mask)
      simpa [rcells, PSt.cut, hn'] using this
    · exact grown_trans (grown_setCell _ c 1 _) (grown_setCell _ c 2 _)

theorem ROn_any (base : Nat) (w : World) (c : Nat) (S : PSt) (h : RPow base w c S) :
    Calls Try.prog 18 #[.pointer (some ⟨c, 0, none⟩)] w fun e w' => e = .returned (.tuple #[]) ∧ RPow base w' c S.on ∧ w.grownBy w' (some c) := by
  obtain ⟨v, hb, hv, hf, hlt⟩ := h
  have c0 := hb.cell 0
  have c1 := hb.cell 1
  have f0 := hb.frozen 0
  have f1 := hb.frozen 1
  simp [rcells] at c0 c1
  generalize (if S.armed = true then S.left else -1) = z at c1
  go_enter Try.func18, Try.ntmps18
  go_wp2
  go_end0
  refine ⟨rfl, ⟨v, ?_, (hv.setCell hf hlt).setCell hf hlt, hf, hlt⟩, ?_⟩
  · exact (hb.set 0 _).set 1 _
  · exact grown_trans (grown_setCell _ c 0 _) (grown_setCell _ c 1 _)

theorem RStep_any (base : Nat) (w : World) (c : Nat) (S : PSt) (n : Nat) (h : RPow base w c S) (ok : S.Ok n) (hn : n < 1000000) :
    Calls Try.prog 43 #[.pointer (some ⟨c, 0, none⟩)] w fun e w' =>
      e = .returned (.tuple #[.bool S.step.1, .bool S.step.2.1]) ∧ RPow base w' c S.step.2.2 ∧ w.grownBy w' (some c) := by
  obtain ⟨v, hb, hv, hf, hlt⟩ := h
  have c0 := hb.cell 0
  have c1 := hb.cell 1
  have c3 := hb.cell 3
  have f0 := hb.frozen 0
  have f1 := hb.frozen 1
  have f3 := hb.frozen 3
  obtain ⟨off, armed, left, mask, steps, fails⟩ := S
  obtain ⟨o1, o2, o3, o4, o5⟩ := ok
  have o4' := of_wf_i64 o4
  simp [rcells] at c0 c1 c3 o1 o2 o3 o4'
  cases off with
  | true =>
    go_enter Try.func43, Try.ntmps43
    go_wp2
    go_ret2
    exact ⟨rfl, ⟨v, hb, hv, hf, hlt⟩, World.grownBy.refl _ _⟩
  | false =>
    cases armed with
    | false =>
      simp at c1
      go_enter Try.func43, Try.ntmps43
      go_wp2
      go_ret2
      refine ⟨rfl, ⟨v, ?_, hv.setCell hf hlt, hf, hlt⟩, ?_⟩
      · exact hb.set 3 _
      · exact grown_setCell _ c 3 _
    | true =>
      have o3' := o3 rfl
      simp at c1
      clear o3 o4
      by_cases hz : left = 0
      · subst hz
        go_enter Try.func43, Try.ntmps43
        go_wp2
        go_ret2
        refine ⟨rfl, ⟨v, ?_, hv.setCell hf hlt, hf, hlt⟩, ?_⟩
        · exact hb.set 0 _
        · exact grown_setCell _ c 0 _
      · have hz' : (left == 0) = false := by simpa using hz
        have hz2 : 0 < left := by omega
        go_enter Try.func43, Try.ntmps43
        go_wp2
        go_ret2
        refine ⟨by simp [PSt.step, hz], ⟨v, ?_, ?_, ?_, hlt⟩, ?_⟩
        · have := (hb.set 1 (.int .i64 (left - 1))).set 3 (.int .i64 (steps + 1))
          simpa [PSt.step, hz, rcells] using this
        · have := (hv.setCell (i := 1) (u := .int .i64 (left - 1)) hf hlt).setCell (i := 3) (u := .int .i64 (steps + 1)) hf hlt
          simpa [PSt.step, hz] using this
        · exact hf
        · exact grown_trans (grown_setCell _ c 1 _) (grown_setCell _ c 3 _)

theorem take_contains {l : List Int} {q : Nat} (x : Int) (h : q < l.length) : (l.take (q + 1)).contains x = ((l.take q).contains x || decide (l.getD q 0 = x)) := by
  rw [take_snocP h]
  simp [eq_comm]

/-- garrethelp.In at integers. -/
theorem In_any (w : World) (v : Value) (xs : List Int) (x : Int) (h : IRow .i64 w v xs) :
    Calls Try.prog 54 #[v, .int .i64 x] w fun e w' => e = .returned (.bool (xs.contains x)) ∧ w' = w := by
  have hlm := h.len
  unfold maxLen at hlm
  by_cases h0 : xs.length = 0
  · obtain ⟨ao, cap, rfl⟩ := h.of_len
    have hx0 : xs = [] := List.eq_nil_of_length_eq_zero h0
    subst hx0
    simp only [List.length_nil]
    go_enter Try.func54, Try.ntmps54
    go_wp2
    refine wp_loop_rounds 1 ?_
    rw [rounds_succ]
    go_wp2
    go_ret
    exact ⟨rfl, rfl⟩
  · obtain ⟨bl, off, cap, rfl, hbl, hc⟩ := h.at (by omega)
    generalize hL : xs.length = len at *
    go_enter Try.func54, Try.ntmps54
    go_wp2
    go_loop [5] (fun i => ∃ k : Nat, k ≤ len ∧ i = .int .i64 k ∧ (xs.take k).contains x = false) (fun i => len - (intOf i).toNat)
    case atStart => exact ⟨0, Nat.zero_le _, rfl, rfl⟩
    case round =>
      obtain ⟨k, hk, rfl, hno⟩ := hrel
      by_cases hlt : k < len
      · have hck := hc k hlt
        have hst := take_contains (l := xs) (q := k) x (by omega)
        obtain ⟨y, hy⟩ : ∃ y, y = xs.getD k 0 := ⟨_, rfl⟩
        have hmem : y ∈ xs := by
          rw [hy, show xs.getD k 0 = xs[k]'(by omega) from by simp [List.getD, List.getElem?_eq_getElem (show k < xs.length by omega)]]
          exact List.getElem_mem _
        rw [← hy] at hck hst
        rw [hno] at hst
        have HST := hide hst
        have HMEM := hide hmem
        have HNO := hide hno
        clear hy hc hst hmem hno
        by_cases hyx : y = x
        · go_wp2
          go_ret
          exact ⟨ret_one (congrArg Value.bool (by subst hyx; symm; simpa using HMEM.out)), rfl⟩
        · go_wp2
          go_round
          case rel => exact ⟨k + 1, by omega, by go_num, by rw [HST.out]; simpa using hyx⟩
          case measure => simp [intOf]; omega
      · obtain rfl : k = len := by omega
        rw [List.take_of_length_le (by omega)] at hno
        go_wp2
        go_ret
        exact ⟨ret_one (congrArg Value.bool (by symm; simpa using hno)), rfl⟩

theorem grown_drewN (w : World) (n : Nat) (r : Option Nat) : w.grownBy (w.drewN n) r := ⟨rfl, rfl, rfl, Nat.le_refl _, fun _ _ _ => rfl⟩
theorem below_drewN (w : World) (n : Nat) : Below w.heap.size w (w.drewN n) := ⟨rfl, rfl, rfl, Nat.le_refl _, fun _ _ => rfl⟩

set_option maxHeartbeats 1000000 in
theorem RFails_any (base : Nat) (w : World) (c : Nat) (S : PSt) (n : Nat) (h : RPow base w c S) (ok : S.Ok n) (hn : n < 1000000) :
    Calls Try.prog 44 #[.pointer (some ⟨c, 0, none⟩)] w fun e w' => e = .returned (.bool S.failed) ∧ w.grownBy w' none := by
  obtain ⟨v, hb, hv, hf, hlt⟩ := h
  have hbs := hb.lt
  have c3 := hb.cell 3
  have c4 := hb.cell 4
  obtain ⟨off, armed, left, mask, steps, fails⟩ := S
  obtain ⟨o1, o2, o3, o4, o5⟩ := ok
  simp [rcells] at c3 c4 o1 o2
  clear o3 o4 o5
  by_cases hz : steps = 0
  · subst hz
    go_enter Try.func44, Try.ntmps44
    go_wp2_with fail
    go_quiet (fail)
    go_wp2
    go_ret
    exact ⟨rfl, grown_drewN _ _ _⟩
  · have hz' : 0 < steps := by omega
    have hd : decide (0 < steps) = true := by simpa using hz'
    have he : PSt.failed ⟨off, armed, left, mask, steps, fails⟩ = fails.contains (steps - 1) := by simp [PSt.failed, hz]
    rw [he]
    go_enter Try.func44, Try.ntmps44
    go_wp2_with fail
    go_quiet (first | (go_at_call 54; refine Calls.quiet_of_same (In_any _ _ fails (steps - 1) (by exact hv.below (below_drewN _ _)))))
    go_wp2
    go_ret
    exact ⟨ret_one (congrArg Value.bool (by simp)), grown_drewN _ _ _⟩

end Go.Proofs.Ythiehpofmlbehaa
