/-
  Powers with their map, or their list, named: so that they stay whatever else is written.
-/
import Derived.Test.YthiehpofmlbehaaNorP
namespace Go.Proofs.Ythiehpofmlbehaa
open Go.RowKit Go.Maps
set_option linter.unusedVariables false

/-- The power in block b is S; its map is mo. -/
structure PowE (w : World) (b : Nat) (mo : Option Nat) (S : PSt) : Prop where
  blk : Blk w b (pcells S mo) 64
  map : PMap 0 w mo S.fails
  ne : mo ≠ some b
theorem PMap.only {w w' : World} {mo : Option Nat} {l : List Int} {x : List Nat} (h : PMap 0 w mo l) (hg : Only x w w') (hr : ∀ k, mo = some k → k ∉ x) : PMap 0 w' mo l := by
  rcases h with h | ⟨b, h1, h2, h3, h4⟩
  · exact .inl h
  · refine .inr ⟨b, h1, h2, ?_, h4⟩
    have hlt := h3.lt
    obtain ⟨es, clock, hb, r⟩ := h3
    exact ⟨es, clock, (hg.block b hlt (hr b h1)).trans hb, r⟩
theorem PMap.grown {w w' : World} {mo : Option Nat} {l : List Int} {b : Nat} (h : PMap 0 w mo l) (hg : w.grownBy w' (some b)) (hr : mo ≠ some b) : PMap 0 w' mo l :=
  h.only (x := [b]) (only_grown hg (fun k e => by cases e; simp)) (fun k e => by subst e; simpa using hr)
theorem PowE.only {w w' : World} {b : Nat} {mo : Option Nat} {S : PSt} {x : List Nat} (h : PowE w b mo S) (hg : Only x w w') (hb : b ∉ x) (hr : ∀ k, mo = some k → k ∉ x) : PowE w' b mo S :=
  ⟨h.blk.only hg hb, h.map.only hg hr, h.ne⟩

theorem CutE_any (w : World) (b : Nat) (mo : Option Nat) (S : PSt) (left mask : Int) (h : PowE w b mo S) :
    Calls Try.prog 15 #[.pointer (some ⟨b, 0, none⟩), .int .i64 left, .int .u8 mask] w fun e w' => e = .returned (.tuple #[]) ∧ PowE w' b mo (S.cut left mask) ∧ w.grownBy w' (some b) := by
  obtain ⟨hb, hm, hlt⟩ := h
  have c1 := hb.cell 1
  have c2 := hb.cell 2
  have c3 := hb.cell 3
  have f1 := hb.frozen 1
  have f2 := hb.frozen 2
  have f3 := hb.frozen 3
  simp [pcells] at c1 c2 c3
  go_enter Try.func15, Try.ntmps15
  go_wp2
  go_end0
  refine ⟨rfl, ⟨?_, ?_, hlt⟩, ?_⟩
  · exact ((hb.set 1 _).set 2 _).set 3 _
  · exact ((hm.grown (grown_setCell _ b 1 _) hlt).grown (grown_setCell _ b 2 _) hlt).grown (grown_setCell _ b 3 _) hlt
  · exact grown_trans (grown_trans (grown_setCell _ b 1 _) (grown_setCell _ b 2 _)) (grown_setCell _ b 3 _)


theorem OnE_any (w : World) (b : Nat) (mo : Option Nat) (S : PSt) (h : PowE w b mo S) :
    Calls Try.prog 17 #[.pointer (some ⟨b, 0, none⟩)] w fun e w' => e = .returned (.tuple #[]) ∧ PowE w' b mo S.on ∧ w.grownBy w' (some b) := by
  obtain ⟨hb, hm, hlt⟩ := h
  have c0 := hb.cell 0
  have c1 := hb.cell 1
  have f0 := hb.frozen 0
  have f1 := hb.frozen 1
  simp [pcells] at c0 c1
  go_enter Try.func17, Try.ntmps17
  go_wp2
  go_end0
  refine ⟨rfl, ⟨?_, ?_, hlt⟩, ?_⟩
  · exact (hb.set 0 _).set 1 _
  · exact (hm.grown (grown_setCell _ b 0 _) hlt).grown (grown_setCell _ b 1 _) hlt
  · exact grown_trans (grown_setCell _ b 0 _) (grown_setCell _ b 1 _)


theorem MaskE_any (w : World) (b : Nat) (mo : Option Nat) (S : PSt) (h : PowE w b mo S) :
    Calls Try.prog 53 #[.pointer (some ⟨b, 0, none⟩)] w fun e w' => e = .returned (.int .u8 S.mask) ∧ w' = w := by
  obtain ⟨hb, hm, hlt⟩ := h
  have c3 := hb.cell 3
  simp [pcells] at c3
  go_enter Try.func53, Try.ntmps53
  go_wp2
  go_ret
  exact ⟨rfl, rfl⟩


theorem StepsE_any (w : World) (b : Nat) (mo : Option Nat) (S : PSt) (h : PowE w b mo S) :
    Calls Try.prog 31 #[.pointer (some ⟨b, 0, none⟩)] w fun e w' => e = .returned (.int .i64 S.steps) ∧ w' = w := by
  obtain ⟨hb, hm, hlt⟩ := h
  have c4 := hb.cell 4
  simp [pcells] at c4
  go_enter Try.func31, Try.ntmps31
  go_wp2
  go_ret
  exact ⟨rfl, rfl⟩


theorem StepE_any (w : World) (b : Nat) (mo : Option Nat) (S : PSt) (n : Nat) (h : PowE w b mo S) (ok : S.Ok n) (hn : n < 1000000) :
    Calls Try.prog 38 #[.pointer (some ⟨b, 0, none⟩)] w fun e w' =>
      e = .returned (.tuple #[.bool S.step.1, .bool S.step.2.1]) ∧ PowE w' b mo S.step.2.2 ∧ w.grownBy w' (some b) := by
  obtain ⟨hb, hm, hlt⟩ := h
  have c0 := hb.cell 0
  have c1 := hb.cell 1
  have c2 := hb.cell 2
  have c4 := hb.cell 4
  have f0 := hb.frozen 0
  have f2 := hb.frozen 2
  have f4 := hb.frozen 4
  obtain ⟨off, armed, left, mask, steps, fails⟩ := S
  obtain ⟨o1, o2, o3, o4, o5⟩ := ok
  have o4' := of_wf_i64 o4
  simp [pcells] at c0 c1 c2 c4 o1 o2 o3 o4'
  cases off with
  | true =>
    go_enter Try.func38, Try.ntmps38
    go_wp2
    go_ret2
    exact ⟨rfl, ⟨hb, hm, hlt⟩, World.grownBy.refl _ _⟩
  | false =>
    cases armed with
    | false =>
      go_enter Try.func38, Try.ntmps38
      go_wp2
      go_ret2
      refine ⟨rfl, ⟨?_, ?_, hlt⟩, ?_⟩
      · exact hb.set 4 _
      · exact hm.grown (grown_setCell _ b 4 _) hlt
      · exact grown_setCell _ b 4 _
    | true =>
      have o3' := o3 rfl
      clear o3 o4
      by_cases hz : left = 0
      · subst hz
        go_enter Try.func38, Try.ntmps38
        go_wp2
        go_ret2
        refine ⟨rfl, ⟨?_, ?_, hlt⟩, ?_⟩
        · exact hb.set 0 _
        · exact hm.grown (grown_setCell _ b 0 _) hlt
        · exact grown_setCell _ b 0 _
      · have hz' : (left == 0) = false := by simpa using hz
        go_enter Try.func38, Try.ntmps38
        go_wp2
        go_ret2
        refine ⟨by simp [PSt.step, hz], ⟨?_, ?_, hlt⟩, ?_⟩
        · have := (hb.set 2 (.int .i64 (left - 1))).set 4 (.int .i64 (steps + 1))
          simpa [PSt.step, hz, pcells] using this
        · have h2 := hm.grown (grown_setCell w b 2 (.int .i64 (left - 1))) hlt
          have h4 := h2.grown (grown_setCell _ b 4 (.int .i64 (steps + 1))) hlt
          simpa [PSt.step, hz] using h4
        · exact grown_trans (grown_setCell _ b 2 _) (grown_setCell _ b 4 _)


set_option maxHeartbeats 1000000 in
theorem FailsE_any (w : World) (b : Nat) (mo : Option Nat) (S : PSt) (n : Nat) (h : PowE w b mo S) (ok : S.Ok n) (hn : n < 1000000) :
    Calls Try.prog 40 #[.pointer (some ⟨b, 0, none⟩)] w fun e w' => e = .returned (.bool S.failed) ∧ w.grownBy w' none := by
  obtain ⟨hb, hm, hlt⟩ := h
  have hbs := hb.lt
  have c4 := hb.cell 4
  have c5 := hb.cell 5
  obtain ⟨off, armed, left, mask, steps, fails⟩ := S
  obtain ⟨o1, o2, o3, o4, o5⟩ := ok
  simp [pcells] at c4 c5 o1 o2
  clear o3 o4 o5
  by_cases hz : steps = 0
  · subst hz
    go_enter Try.func40, Try.ntmps40
    go_wp2
    go_ret
    exact ⟨rfl, World.grownBy.refl _ _⟩
  · have hz' : (steps == 0) = false := by simpa using hz
    have hk := wf_i64 (n := steps - 1) (by omega) (by omega)
    have l1 := (hm.kept (grown_drew w none) (by simp)).look (steps - 1) hk
    have l2 := ((hm.kept (World.grownBy_alloc w (.cells #[] 70) none) (by simp)).kept (grown_drew _ none) (by simp)).look (steps - 1) hk
    have he : PSt.failed ⟨off, armed, left, mask, steps, fails⟩ = fails.contains (steps - 1) := by simp [PSt.failed, hz']
    rw [he]
    generalize fails.contains (steps - 1) = r at *
    clear hb hm he hk
    go_enter Try.func40, Try.ntmps40
    go_wp2
    go_region
    all_goals go_wp2
    all_goals go_ret
    all_goals exact ⟨rfl, grown_trans (World.grownBy_alloc _ _ none) (grown_drew _ none)⟩


set_option maxHeartbeats 1000000 in
theorem FailE_any (w : World) (b : Nat) (mo : Option Nat) (S : PSt) (lv : Value) (l : List Int) (h : PowE w b mo S) (hl : IRow .i64 w lv l) (hn : l.length < 1000000) :
    Calls Try.prog 12 #[.pointer (some ⟨b, 0, none⟩), lv] w fun e w' => e = .returned (.tuple #[]) ∧ ∃ m, w.heap.size ≤ m ∧ m < w'.heap.size ∧ PowE w' b (some m) { S with fails := l } ∧ w.grownBy w' (some b) := by
  obtain ⟨hb, hm, hlt⟩ := h
  have hbs := hb.lt
  have c5 := hb.cell 5
  have f5 := hb.frozen 5
  simp [pcells] at c5
  have hmm := run_makeMap_n
  -- the field, once the map is whole
  have hEnd : ∀ wr : World, Below w.heap.size w wr → wr.ownsMap (H := Unit) Try.prog 72 unitElem w.heap.size l.length (setOf (.agg []) (l.map stepKey)) →
      ∃ m, w.heap.size ≤ m ∧ m < (wr.setCell ⟨b, 5, none⟩ (.map (some w.heap.size))).heap.size ∧ PowE (wr.setCell ⟨b, 5, none⟩ (.map (some w.heap.size))) b (some m) { S with fails := l } ∧ w.grownBy (wr.setCell ⟨b, 5, none⟩ (.map (some w.heap.size))) (some b) := by
    intro wr hbel hown
    refine ⟨w.heap.size, Nat.le_refl _, by have := hown.lt; simpa using this, ⟨?_, .inr ⟨w.heap.size, rfl, Nat.zero_le _, hown.kept (grown_setCell wr b 5 _) (by simp; omega), hl.wf⟩, by simp; omega⟩, ?_⟩
    · exact (hb.below hbel hbs).set 5 _
    · exact grown_trans (below_grown hbel _) (grown_setCell wr b 5 _)
  by_cases h0 : l.length = 0
  · obtain ⟨ao, cap, rfl⟩ := hl.of_len
    have hl0 : l = [] := List.eq_nil_of_length_eq_zero h0
    subst hl0
    clear hn h0
    simp only [List.length_nil]
    go_enter Try.func12, Try.ntmps12
    go_wp2
    refine wp_loop_rounds 1 ?_
    rw [rounds_succ]
    go_wp2
    go_end0
    have hE := hEnd _ ((Below.refl _ _).alloc (Nat.le_refl _) _) (World.ownsMap_made _ _ _ _)
    rw [World.setCell_alloc_past _ _ _ _ hbs] at hE
    exact ⟨rfl, hE⟩
  · obtain ⟨bl, off, cap, rfl, hbl, hc⟩ := hl.at (by omega)
    have hwl := hl.wf
    clear hl hb hm h0
    generalize hL : l.length = len at *
    go_enter Try.func12, Try.ntmps12
    go_wp2
    go_loopw [14] (fun i wr => ∃ k : Nat, k ≤ len ∧ i = .int .i64 k ∧ wr.ownsMap (H := Unit) Try.prog 72 unitElem w.heap.size k (setOf (.agg []) ((l.take k).map stepKey)) ∧ Below w.heap.size w wr) (fun i _ => len - (intOf i).toNat)
    case atStart => exact ⟨0, Nat.zero_le _, rfl, World.ownsMap_made _ _ _ _, (Below.refl _ _).alloc (Nat.le_refl _) _⟩
    case round =>
      obtain ⟨k, hk, rfl, hown, hnx⟩ := hrel
      by_cases hlt : k < len
      · have hck : wr.cell? ⟨bl, off + k, none⟩ = some (.int .i64 (l.getD k 0)) := (hnx.cell (by exact hbl)).trans (hc k hlt)
        have hsnoc := take_snocP (xs := l) (k := k) (by omega)
        obtain ⟨x, hx⟩ : ∃ x, x = l.getD k 0 := ⟨_, rfl⟩
        have hxw : (Lit.int .i64 x).wf = true := hx ▸ (by
          rw [show l.getD k 0 = l[k] from by simp [List.getD, List.getElem?_eq_getElem (show k < l.length by omega)]]
          exact hwl _ (List.getElem_mem _))
        rw [← hx] at hck hsnoc
        have HS := hide hsnoc
        have hkey := keyOf_step x hxw
        clear hx hsnoc hc hEnd
        go_wp2_with (first
          | (at_mapUpdate; refine wpList_mapUpdate_own _ rfl _ _ _ 62 rfl 72 70 keyedStep Try.underlying62 _ w.heap.size k _ rfl hown (by unfold maxLen; omega) _ _ _ rfl rfl hkey (.agg []) [] unitElem_mk ?_)
          | go_in)
        intro w1 hown1 hgrow1
        have R2 := hnx.grown hgrow1 hnx.size (fun j hj => by cases hj; exact Nat.le_refl _)
        have R1 : w1.ownsMap (H := Unit) Try.prog 72 unitElem w.heap.size (k + 1) (setOf (.agg []) ((l.take (k + 1)).map stepKey)) := by
          rw [HS.out, List.map_append, List.map_take, List.map_singleton, setOf_snoc]
          first | exact hown1 | (rw [List.map_take] at hown1; exact hown1)
        clear hgrow1 hown hown1 HS
        go_wp2
        go_roundw
        case rel => exact ⟨k + 1, by omega, by go_num, R1, R2⟩
        case measure => simp [intOf]; omega
      · obtain rfl : k = len := by omega
        have d5 : wr.cell? ⟨b, 5, none⟩ = some (.map mo) := (hnx.cell (by exact hbs)).trans c5
        have g5 : wr.frozen? ⟨b, 5, none⟩ = false := (hnx.frozen (by exact hbs)).trans f5
        go_wp2
        go_end0
        exact ⟨rfl, hEnd _ hnx (by rw [List.take_of_length_le (by omega)] at hown; exact hown)⟩


theorem PowE.new (w : World) : PowE (w.alloc (.cells (pcells PSt.zero none) 64)) w.heap.size none PSt.zero := ⟨Blk.new _ _ _, .inl ⟨rfl, rfl⟩, by simp⟩
end Go.Proofs.Ythiehpofmlbehaa
