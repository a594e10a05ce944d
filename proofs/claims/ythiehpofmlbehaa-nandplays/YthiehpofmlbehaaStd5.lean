/-
  What package nand takes from the standard library, and its small helpers: a row is cloned, two are joined, bytes are repeated, bits are set and kept.
-/
import Derived.Test.YthiehpofmlbehaaGeo
import Derived.Laws.CopyOwn
import Derived.Lib.SliceRun
import Derived.Lib.AppendZeros
import Derived.Lib.MakeNoZero
namespace Go.Proofs.Ythiehpofmlbehaa
open Go.RowKit
set_option linter.unusedVariables false
set_option maxRecDepth 100000

theorem Own.at0 {base : Nat} {w : World} {v : Value} {xs : List Int} (h : Own base w v xs) : ∀ b off n cap, v = .slice (some ⟨b, off, none⟩) n cap → base ≤ b ∧ off = 0 ∧ n = xs.length ∧ b < w.heap.size := by
  intro b off n cap hv
  have hk := h.block b (by rw [hv]; rfl)
  rcases h.1.2 with ⟨hn, _⟩ | ⟨g, cap', cur, hv', hbg, _⟩
  · rw [hn] at hv; cases hv
  · rw [hv] at hv'
    simp at hv'
    omega
theorem Own.only {l : List Nat} {base : Nat} {w w' : World} {v : Value} {xs : List Int} (h : Own base w v xs) (hg : Only l w w') (hne : ∀ k, v.ownBlock = some k → k ∉ l) : Own base w' v xs := by
  refine ⟨⟨h.1.1, ?_⟩, h.2⟩
  rcases h.1.2 with hn | ⟨g, cap, cur, hv, hb, hh, r⟩
  · exact .inl hn
  · have hlt := (h.1.lt g (by rw [hv]; rfl)).2
    exact .inr ⟨g, cap, cur, hv, hb, (hg.block g hlt (hne g (by rw [hv]; rfl))).trans hh, r⟩
theorem eqNil5 (w : World) (a : Option Addr) (n c : Nat) : (binOp .eql 43 (.slice a n c) (.slice none 0 0)).run Try.prog w = .ok (.bool a.isNone) w := Lib.run_eql_slice_nil w _ _ a n c 0 0 Try.underlying43

theorem own_empty5 (w : World) : Own w.heap.size (w.alloc (.cells #[] 5)) (.slice (some ⟨w.heap.size, 0, none⟩) 0 0) [] := by
  refine ⟨⟨rfl, .inr ⟨w.heap.size, 0, #[], rfl, Nat.le_refl _, ?_, Nat.le_refl _, Nat.zero_le _, rfl, rfl⟩⟩, Bys.nil⟩
  exact Blk.new w #[] 5

theorem Clone5_any (w : World) (b p k cap : Nat) (xs : List Int) (h : Row w (.slice (some ⟨b, p, none⟩) k cap) xs) (hk : k < 1000000) :
    Calls Try.prog 50 #[.slice (some ⟨b, p, none⟩) k cap] w fun e w' => ∃ v, e = .returned v ∧ Own w.heap.size w' v xs ∧ Below w.heap.size w w' := by
  have hx : k = xs.length := h.caps.1
  have HX := hide hx
  clear hx
  have h1 := eqNil5 w (some ⟨b, p, none⟩) k cap
  simp at h1
  have hb : Below w.heap.size w (w.alloc (.cells #[] 5)) := (Below.refl _ _).alloc (Nat.le_refl _) _
  have h2 := h.below hb
  go_enter Try.func50, Try.ntmps50
  go_wp2_with (at_builtin; refine wpList_append_row rfl _ _ rfl w.heap.size _ _ [] xs rfl (own_empty5 w) rfl h2 (by have := HX.out; simp; omega) (by simp) ?_)
  intro v' w' hown hg
  have hB : Below w.heap.size w w' := hb.grown hg (by simp) (fun k e => by cases e; exact Nat.le_refl _)
  try rw [List.nil_append] at hown
  have hlen := hown.row.of_len
  obtain ⟨ao, c2, rfl⟩ := hlen
  go_wp2
  go_ret
  exact ⟨_, rfl, hown, hB⟩

/-! ### bits -/
/-- The first k bytes turned. -/
def turn (op : BinOp) (m : Int) (xs : List Int) (k : Nat) : List Int := (xs.take k).map (fun x => bits op .u8 x m) ++ xs.drop k
theorem turn_zero (op : BinOp) (m : Int) (xs : List Int) : turn op m xs 0 = xs := by simp [turn]
theorem turn_all (op : BinOp) (m : Int) (xs : List Int) {k : Nat} (h : xs.length ≤ k) : turn op m xs k = xs.map (fun x => bits op .u8 x m) := by
  simp [turn, List.take_of_length_le h, List.drop_of_length_le h]
theorem turn_length (op : BinOp) (m : Int) (xs : List Int) (k : Nat) : (turn op m xs k).length = xs.length := by
  simp [turn]; omega
theorem turn_at (op : BinOp) (m : Int) (xs : List Int) {k : Nat} (h : k < xs.length) : (turn op m xs k).getD k 0 = xs.getD k 0 := by
  unfold turn
  simp only [List.getD]
  rw [List.getElem?_append_right (by simp; omega)]
  simp [Nat.min_eq_left (Nat.le_of_lt h)]
theorem turn_succ (op : BinOp) (m : Int) (xs : List Int) {k : Nat} (h : k < xs.length) : (turn op m xs k).set k (bits op .u8 (xs.getD k 0) m) = turn op m xs (k + 1) := by
  unfold turn
  rw [take_snocP h, drop_cons h, List.map_append, List.set_append_right _ _ (by simp; omega)]
  simp [Nat.min_eq_left (Nat.le_of_lt h)]
theorem turn_bys (op : BinOp) (m : Int) {xs : List Int} (h : Bys xs) : Bys (xs.map (fun x => bits op .u8 x m)) := by
  intro x hx
  obtain ⟨y, _, rfl⟩ := List.mem_map.1 hx
  exact bits_u8 _ _ _

theorem setBits5_any (base : Nat) (w : World) (g n cap : Nat) (m : Int) (xs : List Int) (h : Own base w (.slice (some ⟨g, 0, none⟩) n cap) xs) (hn : xs.length = n) (hn2 : n < 1000000) :
    Calls Try.prog 52 #[.slice (some ⟨g, 0, none⟩) n cap, .int .u8 m] w fun e w' => e = .returned (.tuple #[]) ∧ Own base w' (.slice (some ⟨g, 0, none⟩) n cap) (xs.map (fun x => bits .or .u8 x m)) ∧ w.grownBy w' (some g) := by
  go_enter Try.func52, Try.ntmps52
  go_wp2
  go_loopw [7] (fun i wr => ∃ k : Nat, k ≤ n ∧ i = .int .i64 k ∧ Own base wr (.slice (some ⟨g, 0, none⟩) n cap) (turn .or m xs k) ∧ w.grownBy wr (some g)) (fun i _ => n - (intOf i).toNat)
  case atStart => exact ⟨0, Nat.zero_le _, rfl, by rw [turn_zero]; exact h, World.grownBy.refl _ _⟩
  case round =>
    obtain ⟨k, hk, rfl, hB, hg⟩ := hrel
    by_cases hlt : k < n
    · have hl := (turn_length .or m xs k).trans hn
      have hc := hB.cellAt hl k hlt
      have hf := hB.frozenAt hl k
      rw [turn_at _ _ _ (by omega)] at hc
      have R := hB.stored hl k (bits .or .u8 (xs.getD k 0) m) (bits_u8 _ _ _)
      rw [turn_succ _ _ _ (by omega)] at R
      have G := grown_trans hg (grown_setCell wr g k (.int .u8 (bits .or .u8 (xs.getD k 0) m)))
      have HR := hide R
      generalize xs.getD k 0 = x at *
      clear R hB h
      go_wp2
      exact ⟨⟨k + 1, by omega, by go_num, HR.out, G⟩, by simp [intOf]; omega⟩
    · obtain rfl : k = n := by omega
      rw [turn_all _ _ _ (by omega)] at hB
      go_wp2
      go_end0
      exact ⟨rfl, hB, hg⟩
theorem setBits5_nil (w : World) (m : Int) :
    Calls Try.prog 52 #[.slice none 0 0, .int .u8 m] w fun e w' => e = .returned (.tuple #[]) ∧ w' = w := by
  go_enter Try.func52, Try.ntmps52
  go_wp2
  refine wp_loop_rounds 1 ?_
  rw [rounds_succ]
  go_wp2
  go_end0
  exact ⟨rfl, rfl⟩

theorem keepBits5_any (base : Nat) (w : World) (g n cap : Nat) (m : Int) (xs : List Int) (h : Own base w (.slice (some ⟨g, 0, none⟩) n cap) xs) (hn : xs.length = n) (hn2 : n < 1000000) :
    Calls Try.prog 56 #[.slice (some ⟨g, 0, none⟩) n cap, .int .u8 m] w fun e w' => e = .returned (.tuple #[]) ∧ Own base w' (.slice (some ⟨g, 0, none⟩) n cap) (xs.map (fun x => bits .and .u8 x m)) ∧ w.grownBy w' (some g) := by
  go_enter Try.func56, Try.ntmps56
  go_wp2
  go_loopw [7] (fun i wr => ∃ k : Nat, k ≤ n ∧ i = .int .i64 k ∧ Own base wr (.slice (some ⟨g, 0, none⟩) n cap) (turn .and m xs k) ∧ w.grownBy wr (some g)) (fun i _ => n - (intOf i).toNat)
  case atStart => exact ⟨0, Nat.zero_le _, rfl, by rw [turn_zero]; exact h, World.grownBy.refl _ _⟩
  case round =>
    obtain ⟨k, hk, rfl, hB, hg⟩ := hrel
    by_cases hlt : k < n
    · have hl := (turn_length .and m xs k).trans hn
      have hc := hB.cellAt hl k hlt
      have hf := hB.frozenAt hl k
      rw [turn_at _ _ _ (by omega)] at hc
      have R := hB.stored hl k (bits .and .u8 (xs.getD k 0) m) (bits_u8 _ _ _)
      rw [turn_succ _ _ _ (by omega)] at R
      have G := grown_trans hg (grown_setCell wr g k (.int .u8 (bits .and .u8 (xs.getD k 0) m)))
      have HR := hide R
      generalize xs.getD k 0 = x at *
      clear R hB h
      go_wp2
      exact ⟨⟨k + 1, by omega, by go_num, HR.out, G⟩, by simp [intOf]; omega⟩
    · obtain rfl : k = n := by omega
      rw [turn_all _ _ _ (by omega)] at hB
      go_wp2
      go_end0
      exact ⟨rfl, hB, hg⟩

/-! ### joined -/
theorem own_zeros (w : World) (n cap : Nat) (cs : Array Value) (hs : cs.size = cap) (hm : cap ≤ maxLen) : Own w.heap.size (w.alloc (.cells cs 5)) (.slice (some ⟨w.heap.size, 0, none⟩) 0 cap) [] := by
  refine ⟨⟨rfl, .inr ⟨w.heap.size, cap, cs, rfl, Nat.le_refl _, ?_, Nat.zero_le _, hm, by simpa using hs, by simp [bv]⟩⟩, Bys.nil⟩
  exact Blk.new w cs 5
theorem Own.drewA {base : Nat} {w : World} {v : Value} {xs : List Int} (h : Own base w v xs) : Own base w.drew v xs := h.kept (Below.refl _ _).drew

theorem Grow_any (w : World) (n : Nat) (h0 : 0 < n) (hn : n < 1000000) :
    Calls Try.prog 55 #[.slice none 0 0, .int .i64 n] w fun e w' => ∃ v, e = .returned v ∧ Own w.heap.size w' v [] ∧ Below w.heap.size w w' := by
  obtain ⟨i0, hi, hz0, hz1, hz2⟩ := info_parts infoByte
  have hr := fun ty => Lib.run_append_nil_zeros (P := Try.prog) w 43 3 ty 5 i0 (.int .u8 0) .i64 .i64 Try.underlying43 Try.underlying3 hi hz0 n h0 (by omega) (by omega) (by rw [hz2]; omega)
  have hcap : n ≤ grownCap w n 0 5 := by simpa using grownCap_ge w n 0 5
  have hcm : grownCap w n 0 5 ≤ maxLen := by simpa using grownCap_le_maxLen w n 0 5 (by unfold maxLen; omega)
  have hsz : (Builtin.zeroCells (Value.int .u8 0).cells n ++ Builtin.zeroCells (Value.int .u8 0).cells (grownCap w n 0 5 - n)).size = grownCap w n 0 5 := by
    simp [Builtin.zeroCells, Value.cells]; omega
  have hown := own_zeros w.drew n (grownCap w n 0 5) _ hsz hcm
  generalize (Builtin.zeroCells (Value.int .u8 0).cells n ++ Builtin.zeroCells (Value.int .u8 0).cells (grownCap w n 0 5 - n)) = cs at *
  generalize grownCap w n 0 5 = cap at *
  have hB : Below w.heap.size w (w.drew.alloc (.cells cs 5)) := (Below.refl _ _).drew.alloc (Nat.le_refl _) _
  unfold maxLen at hcm
  go_enter Try.func55, Try.ntmps55
  go_wp2_with (at_builtin; refine Lib.wpList_append_run _ rfl _ _ _ _ rfl _ _ rfl rfl _ _ (hr _) ?_)
  go_wp2
  go_ret
  exact ⟨_, rfl, hown, hB⟩

set_option maxHeartbeats 1000000 in
theorem Concat_any (w : World) (sb : Nat) (u v : Value) (xs ys : List Int) (hs : Blk w sb #[u, v] 43) (hu : Row w u xs) (hv : Row w v ys) (h0 : 0 < xs.length + ys.length) (hn : xs.length + ys.length < 1000000) :
    Calls Try.prog 46 #[.slice (some ⟨sb, 0, none⟩) 2 2] w fun e w' => ∃ r, e = .returned r ∧ Own w.heap.size w' r (xs ++ ys) ∧ Below w.heap.size w w' := by
  have hsl := hs.lt
  have c0 := hs.cell 0
  have c1 := hs.cell 1
  simp at c0 c1
  have hgr := Grow_any w (xs.length + ys.length) h0 hn
  rw [Int.natCast_add] at hgr
  obtain ⟨ua, ucap, rfl⟩ := hu.of_len
  obtain ⟨va, vcap, rfl⟩ := hv.of_len
  generalize hX : xs.length = lx at *
  generalize hY : ys.length = ly at *
  have HX := hide hX
  have HY := hide hY
  clear hX hY
  have HU := hide hu
  have HV := hide hv
  have HS := hide hs
  clear hu hv hs
  go_enter Try.func46, Try.ntmps46
  go_wp2_with fail
  refine wp_loop_rounds 3 ?_
  rw [rounds_succ]
  go_wp2_with fail
  rw [rounds_succ]
  go_wp2_with fail
  rw [rounds_succ]
  go_wp2_with fail
  refine hgr.mono ?_
  rintro e w1 ⟨r, rfl, hown, hB⟩
  have hU1 := HU.out.below hB
  have hS1 := HS.out.below hB hsl
  have d0 := hS1.cell 0
  have d1 := hS1.cell 1
  simp at d0 d1
  obtain ⟨ra, rcap, rfl⟩ := hown.row.of_len
  simp only [List.length_nil] at *
  go_wp2_with fail
  refine wp_loop_rounds 3 ?_
  rw [rounds_succ]
  go_wp2_with (at_builtin; refine wpList_append_row rfl _ _ rfl w.heap.size _ _ [] xs rfl hown rfl hU1 (by have := HX.out; simp; omega) hB.size ?_)
  intro v' w2 hown2 hg2
  have hB2 : Below w.heap.size w w2 := hown.grown_below hB hg2 (Nat.le_refl _) hB.size
  try rw [List.nil_append] at hown2
  have hV2 := HV.out.below hB2
  have hS2 := HS.out.below hB2 hsl
  have g1 := hS2.cell 1
  simp at g1
  clear hg2 hown hB hU1 hS1 d0 d1 hS2
  obtain ⟨r2, rcap2, rfl⟩ := hown2.row.of_len
  have hl2 := HX.out
  rw [hl2] at hown2 ⊢
  clear hl2
  go_wp2_with fail
  rw [rounds_succ]
  go_wp2_with (at_builtin; refine wpList_append_row rfl _ _ rfl w.heap.size _ _ xs ys rfl hown2 rfl hV2 (by have := HX.out; have := HY.out; omega) hB2.size ?_)
  intro v' w3 hown3 hg3
  have hB3 : Below w.heap.size w w3 := hown2.grown_below hB2 hg3 (Nat.le_refl _) hB2.size
  obtain ⟨r3, rcap3, rfl⟩ := hown3.row.of_len
  clear hg3 hown2 hB2 hV2
  go_wp2_with fail
  rw [rounds_succ]
  go_wp2
  go_ret
  exact ⟨_, rfl, hown3, hB3⟩
end Go.Proofs.Ythiehpofmlbehaa
