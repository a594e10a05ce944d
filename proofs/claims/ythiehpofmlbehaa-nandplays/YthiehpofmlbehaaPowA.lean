/-
  The contracts of package power: what a power's block holds, and what each method makes of it.
-/
import Derived.Test.YthiehpofmlbehaaBlk
import Derived.Maps.OwnSet
import Derived.DeepKeys4
import Derived.BigRegion
namespace Go.Proofs.Ythiehpofmlbehaa
open Go.RowKit Go.Maps
set_option linter.unusedVariables false

/-- What a power is. -/
structure PSt where
  off : Bool
  armed : Bool
  left : Int
  mask : Int
  steps : Int
  fails : List Int

/-- One more step. -/
def PSt.step (S : PSt) : Bool × Bool × PSt :=
  if S.off then (false, false, S) else if S.armed && S.left == 0 then (false, true, { S with off := true })
  else (true, false, { S with left := if S.armed then S.left - 1 else S.left, steps := S.steps + 1 })
def PSt.cut (S : PSt) (left mask : Int) : PSt := { S with armed := decide (0 ≤ left), left := left, mask := mask }
def PSt.on (S : PSt) : PSt := { S with off := false, armed := false }
def PSt.failed (S : PSt) : Bool := !(S.steps == 0) && S.fails.contains (S.steps - 1)
def PSt.zero : PSt := ⟨false, false, 0, 0, 0, []⟩

/-- Its numbers are such that none goes round. -/
structure PSt.Ok (S : PSt) (n : Nat) : Prop where
  steps0 : 0 ≤ S.steps
  steps1 : S.steps ≤ n
  left0 : S.armed = true → 0 ≤ S.left
  left1 : (Lit.int .i64 S.left).wf = true
  mask : 0 ≤ S.mask ∧ S.mask < 256

def pcells (S : PSt) (mo : Option Nat) : Array Value := #[.bool S.off, .bool S.armed, .int .i64 S.left, .int .u8 S.mask, .int .i64 S.steps, .map mo]

/-- The key of a step's number. -/
def stepKey (a : Int) : Lit := .string (keyBytes [.int .i64 a])
theorem keyedStep : Keyed Try.prog 72 := Keyed.of_law (deep_law_laid (by kernel_rfl) (m := 2) (by omega) (of_decide_eq_true (by kernel_rfl)) (by kernel_rfl) (by kernel_rfl))

theorem keyOf_one {P : Program} {k : TypeId} {f : Field} {q : IntKind} {n : Nat} (hk : P.underlying k = some (.struct #[f])) (ho : f.offset = 0) (hi : P.underlying f.type = some (.int q)) (hc : P.cellsOf k = 1) (hc1 : P.cellsOf f.type = 1)
    (hn : (f.name != "_") = true) (hkt : P.keyType k = true) (hsz : P.types.size = n + 1) (a : Int) (h : (Lit.int q a).wf = true) : keyOf P k (.agg #[.int q a]) = some (.string (keyBytes [.int q a])) := by
  have hf : (Value.agg #[.int q a]).formed P k = true := by simp [Value.formed, hk, hc]
  have h1 : P.keyLits (n + 1) f.type [.int q a] = some [.int q a] := by simp [Program.keyLits, hi, h]
  have h2 : P.keyLits (n + 2) k [.int q a] = some [.int q a] := by
    unfold Program.keyLits
    simp [hk, hc, hc1, ho, hn, h1]
  unfold keyOf
  simp [hk, hkt, hf, hsz, Value.cells, h2]

theorem keyOf_step (a : Int) (h : (Lit.int .i64 a).wf = true) : keyOf Try.prog 72 (.agg #[.int .i64 a]) = some (stepKey a) :=
  keyOf_one (n := 114) Try.underlying72 rfl Try.underlying3 (by kernel_rfl) (by kernel_rfl) (by decide) (by kernel_rfl) (by kernel_rfl) a h
theorem stepKey_inj {a b : Int} (ha : (Lit.int .i64 a).wf = true) (hb : (Lit.int .i64 b).wf = true) (h : stepKey a = stepKey b) : a = b := by
  have := keyedStep.inj (keyOf_step a ha) (h ▸ keyOf_step b hb)
  simpa using this

/-- The numbers that fail, in a map: none, or one of the call's own blocks. -/
def PMap (base : Nat) (w : World) (mo : Option Nat) (l : List Int) : Prop :=
  (mo = none ∧ l = []) ∨ ∃ b, mo = some b ∧ base ≤ b ∧ w.ownsMap (H := Unit) Try.prog 72 unitElem b l.length (setOf (.agg []) (l.map stepKey)) ∧ ∀ x ∈ l, (Lit.int .i64 x).wf = true

theorem PMap.kept {base : Nat} {w w' : World} {mo : Option Nat} {l : List Int} {r : Option Nat} (h : PMap base w mo l) (hg : w.grownBy w' r) (hr : ∀ k, r = some k → k < base) : PMap base w' mo l := by
  rcases h with h | ⟨b, h1, h2, h3, h4⟩
  · exact .inl h
  · exact .inr ⟨b, h1, h2, h3.kept hg (fun e => by have := hr b e.symm; omega), h4⟩

/-- The power in block b is S. -/
def Pow (base : Nat) (w : World) (b : Nat) (S : PSt) : Prop := ∃ mo, Blk w b (pcells S mo) 64 ∧ PMap base w mo S.fails ∧ b < base

theorem Pow.kept {base b : Nat} {w w' : World} {S : PSt} {r : Option Nat} (h : Pow base w b S) (hg : w.grownBy w' r) (hr : ∀ k, r = some k → k < base ∧ k ≠ b) : Pow base w' b S := by
  obtain ⟨mo, h1, h2, h3⟩ := h
  exact ⟨mo, h1.kept hg (fun e => (hr b e.symm).2 rfl), h2.kept hg (fun k e => (hr k e).1), h3⟩

theorem New_any (w : World) : Calls Try.prog 6 #[] w fun e w' => e = .returned (.pointer (some ⟨w.heap.size, 0, none⟩)) ∧ w' = w.alloc (.cells (pcells PSt.zero none) 64) := by
  go_enter Try.func6, Try.ntmps6
  go_wp2
  go_ret
  exact ⟨rfl, rfl⟩

theorem Cut_any (base : Nat) (w : World) (b : Nat) (S : PSt) (left mask : Int) (h : Pow base w b S) :
    Calls Try.prog 15 #[.pointer (some ⟨b, 0, none⟩), .int .i64 left, .int .u8 mask] w fun e w' => e = .returned (.tuple #[]) ∧ Pow base w' b (S.cut left mask) ∧ w.grownBy w' (some b) := by
  obtain ⟨mo, hb, hm, hlt⟩ := h
  have c1 := hb.cell 1
  have c2 := hb.cell 2
  have c3 := hb.cell 3
  have f1 := hb.frozen 1
  have f2 := hb.frozen 2
  have f3 := hb.frozen 3
  simp [pcells] at c1 c2 c3
  go_enter Try.func15, Try.ntmps15
  go_wp2
  go_end0
  refine ⟨rfl, ⟨mo, ?_, ?_, hlt⟩, ?_⟩
  · exact ((hb.set 1 _).set 2 _).set 3 _
  · exact ((hm.kept (grown_setCell _ b 1 _) (by simpa using hlt)).kept (grown_setCell _ b 2 _) (by simpa using hlt)).kept (grown_setCell _ b 3 _) (by simpa using hlt)
  · exact grown_trans (grown_trans (grown_setCell _ b 1 _) (grown_setCell _ b 2 _)) (grown_setCell _ b 3 _)

theorem On_any (base : Nat) (w : World) (b : Nat) (S : PSt) (h : Pow base w b S) :
    Calls Try.prog 17 #[.pointer (some ⟨b, 0, none⟩)] w fun e w' => e = .returned (.tuple #[]) ∧ Pow base w' b S.on ∧ w.grownBy w' (some b) := by
  obtain ⟨mo, hb, hm, hlt⟩ := h
  have c0 := hb.cell 0
  have c1 := hb.cell 1
  have f0 := hb.frozen 0
  have f1 := hb.frozen 1
  simp [pcells] at c0 c1
  go_enter Try.func17, Try.ntmps17
  go_wp2
  go_end0
  refine ⟨rfl, ⟨mo, ?_, ?_, hlt⟩, ?_⟩
  · exact (hb.set 0 _).set 1 _
  · exact (hm.kept (grown_setCell _ b 0 _) (by simpa using hlt)).kept (grown_setCell _ b 1 _) (by simpa using hlt)
  · exact grown_trans (grown_setCell _ b 0 _) (grown_setCell _ b 1 _)

theorem Mask_any (base : Nat) (w : World) (b : Nat) (S : PSt) (h : Pow base w b S) :
    Calls Try.prog 53 #[.pointer (some ⟨b, 0, none⟩)] w fun e w' => e = .returned (.int .u8 S.mask) ∧ w' = w := by
  obtain ⟨mo, hb, hm, hlt⟩ := h
  have c3 := hb.cell 3
  simp [pcells] at c3
  go_enter Try.func53, Try.ntmps53
  go_wp2
  go_ret
  exact ⟨rfl, rfl⟩

theorem Steps_any (base : Nat) (w : World) (b : Nat) (S : PSt) (h : Pow base w b S) :
    Calls Try.prog 31 #[.pointer (some ⟨b, 0, none⟩)] w fun e w' => e = .returned (.int .i64 S.steps) ∧ w' = w := by
  obtain ⟨mo, hb, hm, hlt⟩ := h
  have c4 := hb.cell 4
  simp [pcells] at c4
  go_enter Try.func31, Try.ntmps31
  go_wp2
  go_ret
  exact ⟨rfl, rfl⟩

theorem of_wf_i64 {n : Int} (h : (Lit.int .i64 n).wf = true) : -9223372036854775808 ≤ n ∧ n < 9223372036854775808 := by
  simp [Lit.wf, IntKind.min, IntKind.max, IntKind.signed, IntKind.bits] at h; omega
theorem Step_any (base : Nat) (w : World) (b : Nat) (S : PSt) (n : Nat) (h : Pow base w b S) (ok : S.Ok n) (hn : n < 1000000) :
    Calls Try.prog 38 #[.pointer (some ⟨b, 0, none⟩)] w fun e w' =>
      e = .returned (.tuple #[.bool S.step.1, .bool S.step.2.1]) ∧ Pow base w' b S.step.2.2 ∧ w.grownBy w' (some b) := by
  obtain ⟨mo, hb, hm, hlt⟩ := h
  have c0 := hb.cell 0
  have c1 := hb.cell 1
  have c2 := hb.cell 2
  have c4 := hb.cell 4
  have f0 := hb.frozen 0
  have f2 := hb.frozen 2
  have f4 := hb.frozen 4
  obtain ⟨off, armed, left, mask, steps, fails⟩ := S
  obtain ⟨o1, o2, o3, o4, o5⟩ := ok
  have o4' := of_wf_i64 o4
  simp [pcells] at c0 c1 c2 c4 o1 o2 o3 o4'
  cases off with
  | true =>
    go_enter Try.func38, Try.ntmps38
    go_wp2
    go_ret2
    exact ⟨rfl, ⟨mo, hb, hm, hlt⟩, World.grownBy.refl _ _⟩
  | false =>
    cases armed with
    | false =>
      go_enter Try.func38, Try.ntmps38
      go_wp2
      go_ret2
      refine ⟨rfl, ⟨mo, ?_, ?_, hlt⟩, ?_⟩
      · exact hb.set 4 _
      · exact hm.kept (grown_setCell _ b 4 _) (by simpa using hlt)
      · exact grown_setCell _ b 4 _
    | true =>
      have o3' := o3 rfl
      clear o3 o4
      by_cases hz : left = 0
      · subst hz
        go_enter Try.func38, Try.ntmps38
        go_wp2
        go_ret2
        refine ⟨rfl, ⟨mo, ?_, ?_, hlt⟩, ?_⟩
        · exact hb.set 0 _
        · exact hm.kept (grown_setCell _ b 0 _) (by simpa using hlt)
        · exact grown_setCell _ b 0 _
      · have hz' : (left == 0) = false := by simpa using hz
        go_enter Try.func38, Try.ntmps38
        go_wp2
        go_ret2
        refine ⟨by simp [PSt.step, hz], ⟨mo, ?_, ?_, hlt⟩, ?_⟩
        · have := (hb.set 2 (.int .i64 (left - 1))).set 4 (.int .i64 (steps + 1))
          simpa [PSt.step, hz, pcells] using this
        · have h2 := hm.kept (grown_setCell w b 2 (.int .i64 (left - 1))) (by simpa using hlt)
          have h4 := h2.kept (grown_setCell _ b 4 (.int .i64 (steps + 1))) (by simpa using hlt)
          simpa [PSt.step, hz] using h4
        · exact grown_trans (grown_setCell _ b 2 _) (grown_setCell _ b 4 _)

theorem zeroUnit (w : World) : (zeroValue 70).run Try.prog w = .ok (.agg #[]) w := by kernel_rfl

theorem stepKey_isKey (l : List Int) : ∀ x ∈ l.map stepKey, WideAt.IsKeyLit x := by
  intro x hx
  obtain ⟨a, _, rfl⟩ := List.mem_map.1 hx
  trivial

theorem has_step (l : List Int) (a : Int) (hl : ∀ x ∈ l, (Lit.int .i64 x).wf = true) (ha : (Lit.int .i64 a).wf = true) : Maps.has (setOf (DataW.agg [] : DataW Unit) (l.map stepKey)) (stepKey a) = l.contains a := by
  rw [has_setOf _ _ _ (stepKey_isKey l)]
  induction l with
  | nil => rfl
  | cons x r ih =>
    simp only [List.map_cons, List.any_cons, List.contains_cons]
    rw [ih (fun y hy => hl y (by simp [hy]))]
    congr 1
    by_cases e : x = a
    · subst e
      rw [WideAt.sameKey_self (show WideAt.IsKeyLit (stepKey x) from trivial)]; simp
    · have : (stepKey x).sameKey (stepKey a) = false := by
        cases hs : (stepKey x).sameKey (stepKey a)
        · rfl
        · exact absurd (stepKey_inj (hl x (by simp)) ha (WideAt.sameKey_eq hs)) e
      rw [this]; symm; simpa using fun h => e h.symm

/-- The look-up in such a map, whatever world it is in. -/
theorem PMap.look {base : Nat} {w : World} {mo : Option Nat} {l : List Int} (h : PMap base w mo l) (a : Int) (ha : (Lit.int .i64 a).wf = true) :
    (Instr.lookup 62 (.map mo) (.agg #[.int .i64 a]) true).run Try.prog w = .ok (.tuple #[.agg #[], .bool (l.contains a)]) w := by
  rcases h with ⟨rfl, rfl⟩ | ⟨b, rfl, _, h3, h4⟩
  · exact Maps.look_nil true keyedStep Try.underlying62 (zeroUnit w) (keyOf_step a ha)
  · obtain ⟨v, ps, hrun, hv⟩ := h3.look_ok keyedStep Try.underlying62 (zeroUnit w) (zd := .agg []) (zp := []) unitElem_mk (keyOf_step a ha)
    obtain ⟨rfl, _⟩ := unitElem_inv hv
    rw [hrun, has_step l a h4 ha]

set_option maxHeartbeats 1000000 in
theorem Fails_any (base : Nat) (w : World) (b : Nat) (S : PSt) (n : Nat) (h : Pow base w b S) (ok : S.Ok n) (hn : n < 1000000) :
    Calls Try.prog 40 #[.pointer (some ⟨b, 0, none⟩)] w fun e w' => e = .returned (.bool S.failed) ∧ w.grownBy w' none := by
  obtain ⟨mo, hb, hm, hlt⟩ := h
  have hbs := hb.lt
  have c4 := hb.cell 4
  have c5 := hb.cell 5
  obtain ⟨off, armed, left, mask, steps, fails⟩ := S
  obtain ⟨o1, o2, o3, o4, o5⟩ := ok
  simp [pcells] at c4 c5 o1 o2
  clear o3 o4 o5
  by_cases hz : steps = 0
  · subst hz
    go_enter Try.func40, Try.ntmps40
    go_wp2
    go_ret
    exact ⟨rfl, World.grownBy.refl _ _⟩
  · have hz' : (steps == 0) = false := by simpa using hz
    have hk := wf_i64 (n := steps - 1) (by omega) (by omega)
    have l1 := (hm.kept (grown_drew w none) (by simp)).look (steps - 1) hk
    have l2 := ((hm.kept (World.grownBy_alloc w (.cells #[] 70) none) (by simp)).kept (grown_drew _ none) (by simp)).look (steps - 1) hk
    have he : PSt.failed ⟨off, armed, left, mask, steps, fails⟩ = fails.contains (steps - 1) := by simp [PSt.failed, hz']
    rw [he]
    generalize fails.contains (steps - 1) = r at *
    clear hb hm he hk
    go_enter Try.func40, Try.ntmps40
    go_wp2
    go_region
    all_goals go_wp2
    all_goals go_ret
    all_goals exact ⟨rfl, grown_trans (World.grownBy_alloc _ _ none) (grown_drew _ none)⟩

theorem run_makeMap_n (n : Int) (w : World) : (Instr.makeMap 62 (some (.int .i64 n))).run Try.prog w = .ok (.map (some w.heap.size)) (w.alloc (.map #[] 0)) := by
  simp [Instr.makeMap, run_underlying Try.underlying62, asInt, Result.andThen, newObj]
  rfl

theorem take_snocP {xs : List Int} {k : Nat} (h : k < xs.length) : xs.take (k + 1) = xs.take k ++ [xs.getD k 0] := by
  rw [List.take_succ_eq_append_getElem h]; simp [List.getD, List.getElem?_eq_getElem h]

set_option maxHeartbeats 1000000 in
theorem Fail_any (base : Nat) (w : World) (b : Nat) (S : PSt) (lv : Value) (l : List Int) (h : Pow base w b S) (hbase : base ≤ w.heap.size) (hl : IRow .i64 w lv l) (hn : l.length < 1000000) :
    Calls Try.prog 12 #[.pointer (some ⟨b, 0, none⟩), lv] w fun e w' => e = .returned (.tuple #[]) ∧ Pow base w' b { S with fails := l } ∧ w.grownBy w' (some b) := by
  obtain ⟨mo, hb, hm, hlt⟩ := h
  have hbs := hb.lt
  have c5 := hb.cell 5
  have f5 := hb.frozen 5
  simp [pcells] at c5
  have hmm := run_makeMap_n
  -- the field, once the map is whole
  have hEnd : ∀ wr : World, Below w.heap.size w wr → wr.ownsMap (H := Unit) Try.prog 72 unitElem w.heap.size l.length (setOf (.agg []) (l.map stepKey)) →
      Pow base (wr.setCell ⟨b, 5, none⟩ (.map (some w.heap.size))) b { S with fails := l } ∧ w.grownBy (wr.setCell ⟨b, 5, none⟩ (.map (some w.heap.size))) (some b) := by
    intro wr hbel hown
    refine ⟨⟨some w.heap.size, ?_, .inr ⟨w.heap.size, rfl, hbase, hown.kept (grown_setCell wr b 5 _) (by simp; omega), hl.wf⟩, hlt⟩, ?_⟩
    · exact (hb.below hbel hbs).set 5 _
    · exact grown_trans (below_grown hbel _) (grown_setCell wr b 5 _)
  by_cases h0 : l.length = 0
  · obtain ⟨ao, cap, rfl⟩ := hl.of_len
    have hl0 : l = [] := List.eq_nil_of_length_eq_zero h0
    subst hl0
    clear hn h0
    simp only [List.length_nil]
    go_enter Try.func12, Try.ntmps12
    go_wp2
    refine wp_loop_rounds 1 ?_
    rw [rounds_succ]
    go_wp2
    go_end0
    have hE := hEnd _ ((Below.refl _ _).alloc (Nat.le_refl _) _) (World.ownsMap_made _ _ _ _)
    rw [World.setCell_alloc_past _ _ _ _ hbs] at hE
    exact ⟨rfl, hE⟩
  · obtain ⟨bl, off, cap, rfl, hbl, hc⟩ := hl.at (by omega)
    have hwl := hl.wf
    clear hl hb hm h0
    generalize hL : l.length = len at *
    go_enter Try.func12, Try.ntmps12
    go_wp2
    go_loopw [14] (fun i wr => ∃ k : Nat, k ≤ len ∧ i = .int .i64 k ∧ wr.ownsMap (H := Unit) Try.prog 72 unitElem w.heap.size k (setOf (.agg []) ((l.take k).map stepKey)) ∧ Below w.heap.size w wr) (fun i _ => len - (intOf i).toNat)
    case atStart => exact ⟨0, Nat.zero_le _, rfl, World.ownsMap_made _ _ _ _, (Below.refl _ _).alloc (Nat.le_refl _) _⟩
    case round =>
      obtain ⟨k, hk, rfl, hown, hnx⟩ := hrel
      by_cases hlt : k < len
      · have hck : wr.cell? ⟨bl, off + k, none⟩ = some (.int .i64 (l.getD k 0)) := (hnx.cell (by exact hbl)).trans (hc k hlt)
        have hsnoc := take_snocP (xs := l) (k := k) (by omega)
        obtain ⟨x, hx⟩ : ∃ x, x = l.getD k 0 := ⟨_, rfl⟩
        have hxw : (Lit.int .i64 x).wf = true := hx ▸ (by
          rw [show l.getD k 0 = l[k] from by simp [List.getD, List.getElem?_eq_getElem (show k < l.length by omega)]]
          exact hwl _ (List.getElem_mem _))
        rw [← hx] at hck hsnoc
        have HS := hide hsnoc
        have hkey := keyOf_step x hxw
        clear hx hsnoc hc hEnd
        go_wp2_with (first
          | (at_mapUpdate; refine wpList_mapUpdate_own _ rfl _ _ _ 62 rfl 72 70 keyedStep Try.underlying62 _ w.heap.size k _ rfl hown (by unfold maxLen; omega) _ _ _ rfl rfl hkey (.agg []) [] unitElem_mk ?_)
          | go_in)
        intro w1 hown1 hgrow1
        have R2 := hnx.grown hgrow1 hnx.size (fun j hj => by cases hj; exact Nat.le_refl _)
        have R1 : w1.ownsMap (H := Unit) Try.prog 72 unitElem w.heap.size (k + 1) (setOf (.agg []) ((l.take (k + 1)).map stepKey)) := by
          rw [HS.out, List.map_append, List.map_take, List.map_singleton, setOf_snoc]
          first | exact hown1 | (rw [List.map_take] at hown1; exact hown1)
        clear hgrow1 hown hown1 HS
        go_wp2
        go_roundw
        case rel => exact ⟨k + 1, by omega, by go_num, R1, R2⟩
        case measure => simp [intOf]; omega
      · obtain rfl : k = len := by omega
        have d5 : wr.cell? ⟨b, 5, none⟩ = some (.map mo) := (hnx.cell (by exact hbs)).trans c5
        have g5 : wr.frozen? ⟨b, 5, none⟩ = false := (hnx.frozen (by exact hbs)).trans f5
        go_wp2
        go_end0
        exact ⟨rfl, hEnd _ hnx (by rw [List.take_of_length_le (by omega)] at hown; exact hown)⟩

end Go.Proofs.Ythiehpofmlbehaa
