/-
  The document's power, its list of what fails named: so that it stays whatever else is written; its chip of pages with it.
-/
import Derived.Test.YthiehpofmlbehaaRNandD
import Derived.StillTailTactics
namespace Go.Proofs.Ythiehpofmlbehaa
open Go.RowKit
set_option linter.unusedVariables false
set_option maxRecDepth 100000

/-- The document's power in block c is S; its list is v. -/
structure RPowX (w : World) (c : Nat) (v : Value) (S : PSt) : Prop where
  blk : Blk w c (rcells S v) 42
  row : IRow .i64 w v S.fails
  ne : S.fails ≠ [] → ∀ b off n cap, v = .slice (some ⟨b, off, none⟩) n cap → b ≠ c
theorem IRow.onlyX {k : IntKind} {w w' : World} {v : Value} {xs : List Int} {l : List Nat} (h : IRow k w v xs) (hg : Only l w w') (hn : xs ≠ [] → ∀ b off n cap, v = .slice (some ⟨b, off, none⟩) n cap → b ∉ l) : IRow k w' v xs := by
  by_cases h0 : xs = []
  · subst h0
    obtain ⟨ao, cap, rfl, h1, h2, h3, h4, h5⟩ := h
    exact ⟨ao, cap, rfl, h1, h2, h3, fun a _ j hj => by simp at hj, h5⟩
  · refine h.kept fun b o u ⟨off, n, cap, hv⟩ hc => ?_
    exact (World.cell?_of_block (a := ⟨b, o, none⟩) (hg.block b (World.block_lt_of_cell? w _ hc) (hn h0 b off n cap hv))).trans hc
theorem RPowX.only {w w' : World} {c : Nat} {v : Value} {S : PSt} {l : List Nat} (h : RPowX w c v S) (hg : Only l w w') (hc : c ∉ l) (hn : S.fails ≠ [] → ∀ b off n cap, v = .slice (some ⟨b, off, none⟩) n cap → b ∉ l) : RPowX w' c v S :=
  ⟨h.blk.only hg hc, h.row.onlyX hg hn, h.ne⟩
theorem IRow.setX {c i : Nat} {w : World} {k : IntKind} {v u : Value} {xs : List Int} (h : IRow k w v xs) (hn : xs ≠ [] → ∀ b off n cap, v = .slice (some ⟨b, off, none⟩) n cap → b ≠ c) : IRow k (w.setCell ⟨c, i, none⟩ u) v xs :=
  h.onlyX (l := [c]) (only_setCell w c i u [c] (by simp)) (fun h0 b off n cap hv => by simp; exact hn h0 b off n cap hv)

theorem step_fails (S : PSt) : S.step.2.2.fails = S.fails := by
  unfold PSt.step
  split
  · rfl
  · split <;> rfl

theorem RCutX_any (w : World) (c : Nat) (v : Value) (S : PSt) (left mask : Int) (h : RPowX w c v S) :
    Calls Try.prog 16 #[.pointer (some ⟨c, 0, none⟩), .int .i64 left, .int .u8 mask] w fun e w' => e = .returned (.tuple #[]) ∧ RPowX w' c v (S.cut left mask) ∧ w.grownBy w' (some c) := by
  obtain ⟨hb, hv, hf⟩ := h
  have c1 := hb.cell 1
  have c2 := hb.cell 2
  have f1 := hb.frozen 1
  have f2 := hb.frozen 2
  simp [rcells] at c1 c2
  generalize (if S.armed = true then S.left else -1) = z at c1
  by_cases hn : left ≤ -1
  · have hd : decide (0 ≤ left) = false := by simp; omega
    go_enter Try.func16, Try.ntmps16
    go_wp2
    go_end0
    refine ⟨rfl, ⟨?_, (hv.setX hf).setX hf, hf⟩, ?_⟩
    · have := (hb.set 1 (.int .i64 (-1))).set 2 (.int .u8 mask)
      simpa [rcells, PSt.cut, hd] using this
    · exact grown_trans (grown_setCell _ c 1 _) (grown_setCell _ c 2 _)
  · have hd : decide (0 ≤ left) = true := by simp; omega
    have hn' : 0 ≤ left := by omega
    go_enter Try.func16, Try.ntmps16
    go_wp2
    go_end0
    refine ⟨rfl, ⟨?_, (hv.setX hf).setX hf, hf⟩, ?_⟩
    · have := (hb.set 1 (.int .i64 left)).set 2 (.int .u8 mask)
      simpa [rcells, PSt.cut, hn'] using this
    · exact grown_trans (grown_setCell _ c 1 _) (grown_setCell _ c 2 _)

theorem ROnX_any (w : World) (c : Nat) (v : Value) (S : PSt) (h : RPowX w c v S) :
    Calls Try.prog 18 #[.pointer (some ⟨c, 0, none⟩)] w fun e w' => e = .returned (.tuple #[]) ∧ RPowX w' c v S.on ∧ w.grownBy w' (some c) := by
  obtain ⟨hb, hv, hf⟩ := h
  have c0 := hb.cell 0
  have c1 := hb.cell 1
  have f0 := hb.frozen 0
  have f1 := hb.frozen 1
  simp [rcells] at c0 c1
  generalize (if S.armed = true then S.left else -1) = z at c1
  go_enter Try.func18, Try.ntmps18
  go_wp2
  go_end0
  refine ⟨rfl, ⟨?_, (hv.setX hf).setX hf, hf⟩, ?_⟩
  · exact (hb.set 0 _).set 1 _
  · exact grown_trans (grown_setCell _ c 0 _) (grown_setCell _ c 1 _)

theorem RStepX_any (w : World) (c : Nat) (v : Value) (S : PSt) (n : Nat) (h : RPowX w c v S) (ok : S.Ok n) (hn : n < 1000000) :
    Calls Try.prog 43 #[.pointer (some ⟨c, 0, none⟩)] w fun e w' =>
      e = .returned (.tuple #[.bool S.step.1, .bool S.step.2.1]) ∧ RPowX w' c v S.step.2.2 ∧ w.grownBy w' (some c) := by
  obtain ⟨hb, hv, hf⟩ := h
  have c0 := hb.cell 0
  have c1 := hb.cell 1
  have c3 := hb.cell 3
  have f0 := hb.frozen 0
  have f1 := hb.frozen 1
  have f3 := hb.frozen 3
  obtain ⟨off, armed, left, mask, steps, fails⟩ := S
  obtain ⟨o1, o2, o3, o4, o5⟩ := ok
  have o4' := of_wf_i64 o4
  simp [rcells] at c0 c1 c3 o1 o2 o3 o4'
  cases off with
  | true =>
    go_enter Try.func43, Try.ntmps43
    go_wp2
    go_ret2
    exact ⟨rfl, ⟨hb, hv, hf⟩, World.grownBy.refl _ _⟩
  | false =>
    cases armed with
    | false =>
      simp at c1
      go_enter Try.func43, Try.ntmps43
      go_wp2
      go_ret2
      refine ⟨rfl, ⟨?_, hv.setX hf, hf⟩, ?_⟩
      · exact hb.set 3 _
      · exact grown_setCell _ c 3 _
    | true =>
      have o3' := o3 rfl
      simp at c1
      clear o3 o4
      by_cases hz : left = 0
      · subst hz
        go_enter Try.func43, Try.ntmps43
        go_wp2
        go_ret2
        refine ⟨rfl, ⟨?_, hv.setX hf, hf⟩, ?_⟩
        · exact hb.set 0 _
        · exact grown_setCell _ c 0 _
      · have hz' : (left == 0) = false := by simpa using hz
        have hz2 : 0 < left := by omega
        go_enter Try.func43, Try.ntmps43
        go_wp2
        go_ret2
        refine ⟨by simp [PSt.step, hz], ⟨?_, ?_, ?_⟩, ?_⟩
        · have := (hb.set 1 (.int .i64 (left - 1))).set 3 (.int .i64 (steps + 1))
          simpa [PSt.step, hz, rcells] using this
        · have := (hv.setX (i := 1) (u := .int .i64 (left - 1)) hf).setX (i := 3) (u := .int .i64 (steps + 1)) hf
          simpa [PSt.step, hz] using this
        · rw [step_fails]; exact hf
        · exact grown_trans (grown_setCell _ c 1 _) (grown_setCell _ c 3 _)

set_option maxHeartbeats 1000000 in
theorem RFailsX_any (w : World) (c : Nat) (v : Value) (S : PSt) (n : Nat) (h : RPowX w c v S) (ok : S.Ok n) (hn : n < 1000000) :
    Calls Try.prog 44 #[.pointer (some ⟨c, 0, none⟩)] w fun e w' => e = .returned (.bool S.failed) ∧ w.grownBy w' none := by
  obtain ⟨hb, hv, hf⟩ := h
  have hbs := hb.lt
  have c3 := hb.cell 3
  have c4 := hb.cell 4
  obtain ⟨off, armed, left, mask, steps, fails⟩ := S
  obtain ⟨o1, o2, o3, o4, o5⟩ := ok
  simp [rcells] at c3 c4 o1 o2
  clear o3 o4 o5
  by_cases hz : steps = 0
  · subst hz
    go_enter Try.func44, Try.ntmps44
    go_wp2_with fail
    go_quiet (fail)
    go_wp2
    go_ret
    exact ⟨rfl, grown_drewN _ _ _⟩
  · have hz' : 0 < steps := by omega
    have hd : decide (0 < steps) = true := by simpa using hz'
    have he : PSt.failed ⟨off, armed, left, mask, steps, fails⟩ = fails.contains (steps - 1) := by simp [PSt.failed, hz]
    rw [he]
    go_enter Try.func44, Try.ntmps44
    go_wp2_with fail
    go_quiet (first | (go_at_call 54; refine Calls.quiet_of_same (In_any _ _ fails (steps - 1) (by exact hv.below (below_drewN _ _)))))
    go_wp2
    go_ret
    exact ⟨ret_one (congrArg Value.bool (by simp)), grown_drewN _ _ _⟩


/-- The document's chip with its power. -/
structure RNDev (w : World) (M : RLy) (v : Value) (S : PSt) (N : DSt) : Prop where
  pow : RPowX w M.pb v S
  chip : RChip w M N
  far : S.fails ≠ [] → ∀ b off n cap, v = .slice (some ⟨b, off, none⟩) n cap → b ≠ M.c ∧ b ≠ M.bb ∧ b ≠ M.nb ∧ b ≠ M.eb
def RLy.all (M : RLy) : List Nat := [M.pb, M.bb, M.nb, M.eb]
section
variable {w w' : World} {M : RLy} {v : Value} {S S' : PSt} {N : DSt}
theorem RNDev.only {l : List Nat} (h : RNDev w M v S N) (hg : Only l w w') (hp : M.pb ∉ l) (hc : M.c ∉ l ∧ M.bb ∉ l ∧ M.nb ∉ l ∧ M.eb ∉ l) (hn : S.fails ≠ [] → ∀ b off n cap, v = .slice (some ⟨b, off, none⟩) n cap → b ∉ l) : RNDev w' M v S N :=
  ⟨h.pow.only hg hp hn, h.chip.only hg hc, h.far⟩
theorem RNDev.still (h : RNDev w M v S N) (hg : Only [] w w') : RNDev w' M v S N := h.only hg (by simp) (by simp) (by simp)
theorem RNDev.below' (h : RNDev w M v S N) (hb : Below w.heap.size w w') : RNDev w' M v S N := h.still (only_below hb)
theorem RNDev.step (h : RNDev w M v S N) (hp : RPowX w' M.pb v S') (hfl : S'.fails = S.fails) (hg : w.grownBy w' (some M.pb)) : RNDev w' M v S' N := by
  have hO : Only [M.pb] w w' := only_grown hg (fun k e => by cases e; simp)
  obtain ⟨_, n1, n2, n3, n4⟩ := h.chip.ne
  exact ⟨hp, h.chip.only hO (by simp; omega), hfl ▸ h.far⟩
/-- Bytes are written. -/
theorem RChip.setB (h : RChip w M N) (j : Nat) (y : Int) (hy : 0 ≤ y ∧ y < 256) : RChip (w.setCell ⟨M.bb, j, none⟩ (.int .u8 y)) M { N with bs := N.bs.set j y } := by
  have hO := only_setCell w M.bb j (.int .u8 y) [M.bb] (by simp)
  obtain ⟨⟨n1, n2, n3, n4, n5, n6⟩, _⟩ := h.ne
  have hb := h.byt.stored rfl j y hy
  refine ⟨?_, by simpa using hb, h.nxt.only hO (by simp; omega), h.ers.only hO (by simp; omega), h.ne⟩
  have := h.blk.only hO (by simp; omega)
  simpa [rdcells] using this
theorem RNDev.setB (h : RNDev w M v S N) (j : Nat) (y : Int) (hy : 0 ≤ y ∧ y < 256) : RNDev (w.setCell ⟨M.bb, j, none⟩ (.int .u8 y)) M v S { N with bs := N.bs.set j y } := by
  have hO := only_setCell w M.bb j (.int .u8 y) [M.bb] (by simp)
  obtain ⟨_, n1, n2, n3, n4⟩ := h.chip.ne
  exact ⟨h.pow.only hO (by simp; omega) (fun h0 b off n cap e => by simp; exact (h.far h0 b off n cap e).2.1), h.chip.setB j y hy, h.far⟩
theorem RNDev.setN (h : RNDev w M v S N) (i : Nat) (y : Int) : RNDev (w.setCell ⟨M.nb, i, none⟩ (.int .i64 y)) M v S { N with nx := N.nx.set i y } := by
  have hO := only_setCell w M.nb i (.int .i64 y) [M.nb] (by simp)
  obtain ⟨_, n1, n2, n3, n4⟩ := h.chip.ne
  exact ⟨h.pow.only hO (by simp; omega) (fun h0 b off n cap e => by simp; exact (h.far h0 b off n cap e).2.2.1), h.chip.setNext i y, h.far⟩
theorem RChip.setE (h : RChip w M N) (i : Nat) (y : Int) : RChip (w.setCell ⟨M.eb, i, none⟩ (.int .i64 y)) M { N with er := N.er.set i y } := by
  have hO := only_setCell w M.eb i (.int .i64 y) [M.eb] (by simp)
  obtain ⟨⟨n1, n2, n3, n4, n5, n6⟩, _⟩ := h.ne
  refine ⟨h.blk.only hO (by simp; omega), h.byt.only hO (fun k e => by cases e; simp; omega), h.nxt.only hO (by simp; omega), ?_, h.ne⟩
  have := h.ers.setI5 i y
  simpa using this
theorem RNDev.setE (h : RNDev w M v S N) (i : Nat) (y : Int) : RNDev (w.setCell ⟨M.eb, i, none⟩ (.int .i64 y)) M v S { N with er := N.er.set i y } := by
  have hO := only_setCell w M.eb i (.int .i64 y) [M.eb] (by simp)
  obtain ⟨_, n1, n2, n3, n4⟩ := h.chip.ne
  exact ⟨h.pow.only hO (by simp; omega) (fun h0 b off n cap e => by simp; exact (h.far h0 b off n cap e).2.2.2), h.chip.setE i y, h.far⟩
theorem RChip.byteAt (h : RChip w M N) {j : Nat} (hj : j < N.bs.length) : w.cell? ⟨M.bb, j, none⟩ = some (.int .u8 (N.bs.getD j 0)) ∧ w.frozen? ⟨M.bb, j, none⟩ = false := ⟨h.byt.cellAt rfl j hj, h.byt.frozenAt rfl j⟩
theorem RNDev.mask (h : RNDev w M v S N) : w.cell? ⟨M.pb, 2, none⟩ = some (.int .u8 S.mask) := (h.pow.blk.cell 2).trans rfl
theorem RChip.pcell (h : RChip w M N) : w.cell? ⟨M.c, 1 + 4, none⟩ = some (.pointer (some ⟨M.pb, 0, none⟩)) := (h.blk.cell 5).trans rfl
end

/-- All of the device lies below W. -/
def Under (W : Nat) (M : RLy) (v : Value) (fl : List Int) : Prop := (M.pb < W ∧ M.c < W ∧ M.bb < W ∧ M.nb < W ∧ M.eb < W) ∧ (fl ≠ [] → ∀ b off n cap, v = .slice (some ⟨b, off, none⟩) n cap → b < W)
theorem RNDev.under {w : World} {M : RLy} {v : Value} {S : PSt} {N : DSt} (h : RNDev w M v S N) : Under w.heap.size M v S.fails := by
  refine ⟨⟨h.pow.blk.lt, h.chip.blk.lt, (h.chip.byt.block M.bb rfl).2, h.chip.nxt.lt, h.chip.ers.lt⟩, fun h0 b off n cap e => ?_⟩
  obtain ⟨b', off', cap', e', hlt, _⟩ := h.pow.row.at (List.length_pos_iff.2 h0)
  rw [e] at e'
  cases e'
  exact hlt
theorem RNDev.past {w w' : World} {M : RLy} {v : Value} {S : PSt} {N : DSt} {W : Nat} {l : List Nat} (h : RNDev w M v S N) (hu : Under W M v S.fails) (hO : Only l w w') (hl : ∀ q ∈ l, W ≤ q) : RNDev w' M v S N := by
  obtain ⟨⟨u1, u2, u3, u4, u5⟩, u6⟩ := hu
  refine h.only hO (fun hm => by have := hl _ hm; omega) ⟨fun hm => by have := hl _ hm; omega, fun hm => by have := hl _ hm; omega, fun hm => by have := hl _ hm; omega, fun hm => by have := hl _ hm; omega⟩ (fun h0 b off n cap e hm => by have := hl _ hm; have := u6 h0 b off n cap e; omega)
end Go.Proofs.Ythiehpofmlbehaa
