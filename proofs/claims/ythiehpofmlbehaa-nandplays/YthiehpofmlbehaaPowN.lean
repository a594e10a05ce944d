/-
  Powers of which no step fails: no map, no list: so that they stay whatever else is written.
-/
import Derived.Test.YthiehpofmlbehaaRefPow
namespace Go.Proofs.Ythiehpofmlbehaa
open Go.RowKit
set_option linter.unusedVariables false

/-- The power in block b is S; it has no map. -/
def PowN (base : Nat) (w : World) (b : Nat) (S : PSt) : Prop := Blk w b (pcells S none) 64 ∧ S.fails = [] ∧ b < base
theorem PowN.kept {base b : Nat} {w w' : World} {S : PSt} {r : Option Nat} (h : PowN base w b S) (hg : w.grownBy w' r) (hr : ∀ k, r = some k → k < base ∧ k ≠ b) : PowN base w' b S :=
  ⟨h.1.kept hg (fun e => (hr b e.symm).2 rfl), h.2⟩
/-- The document's power in block c is S; it has no list. -/
def RPowN (base : Nat) (w : World) (c : Nat) (S : PSt) : Prop := Blk w c (rcells S (.slice none 0 0)) 42 ∧ S.fails = [] ∧ c < base
theorem RPowN.kept {base b : Nat} {w w' : World} {S : PSt} {r : Option Nat} (h : RPowN base w b S) (hg : w.grownBy w' r) (hr : ∀ k, r = some k → k < base ∧ k ≠ b) : RPowN base w' b S :=
  ⟨h.1.kept hg (fun e => (hr b e.symm).2 rfl), h.2⟩

theorem CutN_any (base : Nat) (w : World) (b : Nat) (S : PSt) (left mask : Int) (h : PowN base w b S) :
    Calls Try.prog 15 #[.pointer (some ⟨b, 0, none⟩), .int .i64 left, .int .u8 mask] w fun e w' => e = .returned (.tuple #[]) ∧ PowN base w' b (S.cut left mask) ∧ w.grownBy w' (some b) := by
  obtain ⟨hb, hfl, hlt⟩ := h
  have c1 := hb.cell 1
  have c2 := hb.cell 2
  have c3 := hb.cell 3
  have f1 := hb.frozen 1
  have f2 := hb.frozen 2
  have f3 := hb.frozen 3
  simp [pcells] at c1 c2 c3
  go_enter Try.func15, Try.ntmps15
  go_wp2
  go_end0
  refine ⟨rfl, ⟨?_, hfl, hlt⟩, ?_⟩
  · exact ((hb.set 1 _).set 2 _).set 3 _
  · exact grown_trans (grown_trans (grown_setCell _ b 1 _) (grown_setCell _ b 2 _)) (grown_setCell _ b 3 _)

theorem OnN_any (base : Nat) (w : World) (b : Nat) (S : PSt) (h : PowN base w b S) :
    Calls Try.prog 17 #[.pointer (some ⟨b, 0, none⟩)] w fun e w' => e = .returned (.tuple #[]) ∧ PowN base w' b S.on ∧ w.grownBy w' (some b) := by
  obtain ⟨hb, hfl, hlt⟩ := h
  have c0 := hb.cell 0
  have c1 := hb.cell 1
  have f0 := hb.frozen 0
  have f1 := hb.frozen 1
  simp [pcells] at c0 c1
  go_enter Try.func17, Try.ntmps17
  go_wp2
  go_end0
  refine ⟨rfl, ⟨?_, hfl, hlt⟩, ?_⟩
  · exact (hb.set 0 _).set 1 _
  · exact grown_trans (grown_setCell _ b 0 _) (grown_setCell _ b 1 _)

theorem MaskN_any (base : Nat) (w : World) (b : Nat) (S : PSt) (h : PowN base w b S) :
    Calls Try.prog 53 #[.pointer (some ⟨b, 0, none⟩)] w fun e w' => e = .returned (.int .u8 S.mask) ∧ w' = w := by
  obtain ⟨hb, hfl, hlt⟩ := h
  have c3 := hb.cell 3
  simp [pcells] at c3
  go_enter Try.func53, Try.ntmps53
  go_wp2
  go_ret
  exact ⟨rfl, rfl⟩

theorem StepsN_any (base : Nat) (w : World) (b : Nat) (S : PSt) (h : PowN base w b S) :
    Calls Try.prog 31 #[.pointer (some ⟨b, 0, none⟩)] w fun e w' => e = .returned (.int .i64 S.steps) ∧ w' = w := by
  obtain ⟨hb, hfl, hlt⟩ := h
  have c4 := hb.cell 4
  simp [pcells] at c4
  go_enter Try.func31, Try.ntmps31
  go_wp2
  go_ret
  exact ⟨rfl, rfl⟩

theorem StepN_any (base : Nat) (w : World) (b : Nat) (S : PSt) (n : Nat) (h : PowN base w b S) (ok : S.Ok n) (hn : n < 1000000) :
    Calls Try.prog 38 #[.pointer (some ⟨b, 0, none⟩)] w fun e w' =>
      e = .returned (.tuple #[.bool S.step.1, .bool S.step.2.1]) ∧ PowN base w' b S.step.2.2 ∧ w.grownBy w' (some b) := by
  obtain ⟨hb, hfl, hlt⟩ := h
  have c0 := hb.cell 0
  have c1 := hb.cell 1
  have c2 := hb.cell 2
  have c4 := hb.cell 4
  have f0 := hb.frozen 0
  have f2 := hb.frozen 2
  have f4 := hb.frozen 4
  obtain ⟨off, armed, left, mask, steps, fails⟩ := S
  simp only at hfl
  subst hfl
  obtain ⟨o1, o2, o3, o4, o5⟩ := ok
  have o4' := of_wf_i64 o4
  simp [pcells] at c0 c1 c2 c4 o1 o2 o3 o4'
  cases off with
  | true =>
    go_enter Try.func38, Try.ntmps38
    go_wp2
    go_ret2
    exact ⟨rfl, ⟨hb, rfl, hlt⟩, World.grownBy.refl _ _⟩
  | false =>
    cases armed with
    | false =>
      go_enter Try.func38, Try.ntmps38
      go_wp2
      go_ret2
      refine ⟨rfl, ⟨?_, rfl, hlt⟩, ?_⟩
      · exact hb.set 4 _
      · exact grown_setCell _ b 4 _
    | true =>
      have o3' := o3 rfl
      clear o3 o4
      by_cases hz : left = 0
      · subst hz
        go_enter Try.func38, Try.ntmps38
        go_wp2
        go_ret2
        refine ⟨rfl, ⟨?_, rfl, hlt⟩, ?_⟩
        · exact hb.set 0 _
        · exact grown_setCell _ b 0 _
      · have hz' : (left == 0) = false := by simpa using hz
        go_enter Try.func38, Try.ntmps38
        go_wp2
        go_ret2
        refine ⟨by simp [PSt.step, hz], ⟨?_, by simp [PSt.step, hz], hlt⟩, ?_⟩
        · have := (hb.set 2 (.int .i64 (left - 1))).set 4 (.int .i64 (steps + 1))
          simpa [PSt.step, hz, pcells] using this
        · exact grown_trans (grown_setCell _ b 2 _) (grown_setCell _ b 4 _)

theorem RCutN_any (base : Nat) (w : World) (c : Nat) (S : PSt) (left mask : Int) (h : RPowN base w c S) :
    Calls Try.prog 16 #[.pointer (some ⟨c, 0, none⟩), .int .i64 left, .int .u8 mask] w fun e w' => e = .returned (.tuple #[]) ∧ RPowN base w' c (S.cut left mask) ∧ w.grownBy w' (some c) := by
  obtain ⟨hb, hfl, hlt⟩ := h
  have c1 := hb.cell 1
  have c2 := hb.cell 2
  have f1 := hb.frozen 1
  have f2 := hb.frozen 2
  simp [rcells] at c1 c2
  generalize (if S.armed = true then S.left else -1) = z at c1
  by_cases hn : left ≤ -1
  · have hd : decide (0 ≤ left) = false := by simp; omega
    go_enter Try.func16, Try.ntmps16
    go_wp2
    go_end0
    refine ⟨rfl, ⟨?_, hfl, hlt⟩, ?_⟩
    · have := (hb.set 1 (.int .i64 (-1))).set 2 (.int .u8 mask)
      simpa [rcells, PSt.cut, hd] using this
    · exact grown_trans (grown_setCell _ c 1 _) (grown_setCell _ c 2 _)
  · have hd : decide (0 ≤ left) = true := by simp; omega
    have hn' : 0 ≤ left := by omega
    go_enter Try.func16, Try.ntmps16
    go_wp2
    go_end0
    refine ⟨rfl, ⟨?_, hfl, hlt⟩, ?_⟩
    · have := (hb.set 1 (.int .i64 left)).set 2 (.int .u8 mask)
      simpa [rcells, PSt.cut, hn'] using this
    · exact grown_trans (grown_setCell _ c 1 _) (grown_setCell _ c 2 _)

theorem ROnN_any (base : Nat) (w : World) (c : Nat) (S : PSt) (h : RPowN base w c S) :
    Calls Try.prog 18 #[.pointer (some ⟨c, 0, none⟩)] w fun e w' => e = .returned (.tuple #[]) ∧ RPowN base w' c S.on ∧ w.grownBy w' (some c) := by
  obtain ⟨hb, hfl, hlt⟩ := h
  have c0 := hb.cell 0
  have c1 := hb.cell 1
  have f0 := hb.frozen 0
  have f1 := hb.frozen 1
  simp [rcells] at c0 c1
  generalize (if S.armed = true then S.left else -1) = z at c1
  go_enter Try.func18, Try.ntmps18
  go_wp2
  go_end0
  refine ⟨rfl, ⟨?_, hfl, hlt⟩, ?_⟩
  · exact (hb.set 0 _).set 1 _
  · exact grown_trans (grown_setCell _ c 0 _) (grown_setCell _ c 1 _)

theorem RStepN_any (base : Nat) (w : World) (c : Nat) (S : PSt) (n : Nat) (h : RPowN base w c S) (ok : S.Ok n) (hn : n < 1000000) :
    Calls Try.prog 43 #[.pointer (some ⟨c, 0, none⟩)] w fun e w' =>
      e = .returned (.tuple #[.bool S.step.1, .bool S.step.2.1]) ∧ RPowN base w' c S.step.2.2 ∧ w.grownBy w' (some c) := by
  obtain ⟨hb, hfl, hlt⟩ := h
  have c0 := hb.cell 0
  have c1 := hb.cell 1
  have c3 := hb.cell 3
  have f0 := hb.frozen 0
  have f1 := hb.frozen 1
  have f3 := hb.frozen 3
  obtain ⟨off, armed, left, mask, steps, fails⟩ := S
  simp only at hfl
  subst hfl
  obtain ⟨o1, o2, o3, o4, o5⟩ := ok
  have o4' := of_wf_i64 o4
  simp [rcells] at c0 c1 c3 o1 o2 o3 o4'
  cases off with
  | true =>
    go_enter Try.func43, Try.ntmps43
    go_wp2
    go_ret2
    exact ⟨rfl, ⟨hb, rfl, hlt⟩, World.grownBy.refl _ _⟩
  | false =>
    cases armed with
    | false =>
      simp at c1
      go_enter Try.func43, Try.ntmps43
      go_wp2
      go_ret2
      refine ⟨rfl, ⟨?_, rfl, hlt⟩, ?_⟩
      · exact hb.set 3 _
      · exact grown_setCell _ c 3 _
    | true =>
      have o3' := o3 rfl
      simp at c1
      clear o3 o4
      by_cases hz : left = 0
      · subst hz
        go_enter Try.func43, Try.ntmps43
        go_wp2
        go_ret2
        refine ⟨rfl, ⟨?_, rfl, hlt⟩, ?_⟩
        · exact hb.set 0 _
        · exact grown_setCell _ c 0 _
      · have hz' : (left == 0) = false := by simpa using hz
        have hz2 : 0 < left := by omega
        go_enter Try.func43, Try.ntmps43
        go_wp2
        go_ret2
        refine ⟨by simp [PSt.step, hz], ⟨?_, by simp [PSt.step, hz], hlt⟩, ?_⟩
        · have := (hb.set 1 (.int .i64 (left - 1))).set 3 (.int .i64 (steps + 1))
          simpa [PSt.step, hz, rcells] using this
        · exact grown_trans (grown_setCell _ c 1 _) (grown_setCell _ c 3 _)

end Go.Proofs.Ythiehpofmlbehaa
