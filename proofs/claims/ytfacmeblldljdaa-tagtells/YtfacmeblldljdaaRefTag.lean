/-
  The document's own tags (garretref01.TagOf, WriteTag, ReadTag): the same plain functions.
-/
import Derived.Test.YtfacmeblldljdaaTagB
import Derived.Test.YtfacmeblldljdaaTagC
import Derived.Test.YtfacmeblldljdaaRefCodec
import Derived.Test.YtfacmeblldljdaaRefSum
import Derived.Test.YtfacmeblldljdaaDrawn
import Derived.Deep.RegionHeld3
namespace Go.Proofs.Ytfacmeblldljdaa
open Go.RowKit
set_option linter.unusedVariables false

theorem small_any (w : World) (v : Int) : Calls Try.prog 19 #[.int .i64 v] w fun e w' => e = .returned (.bool (inNum v)) ∧ w' = w := by
  by_cases h0 : 0 ≤ v
  · by_cases h1 : v ≤ 2147483647
    · rw [inNum_yes h0 h1]
      have h1 : v < 2147483648 := by omega
      go_enter Try.func19, Try.ntmps19
      go_wp2
      go_ret
      exact ⟨rfl, rfl⟩
    · rw [inNum_big h1]
      have h1 : ¬ v < 2147483648 := by omega
      go_enter Try.func19, Try.ntmps19
      go_wp2
      go_ret
      exact ⟨rfl, rfl⟩
  · rw [inNum_neg h0]
    go_enter Try.func19, Try.ntmps19
    go_wp2
    go_ret
    exact ⟨rfl, rfl⟩

theorem RTOf_any (w : World) (b : Value) (xs : List Int) (n i : Int) (h : Row w b xs) :
    Calls Try.prog 13 #[.int .i64 n, .int .i64 i, b] w fun e w' => e = .returned (.agg (tcells n i (sumS xs))) ∧ Below w.heap.size w w' := by
  unfold tcells
  go_enter Try.func13, Try.ntmps13
  go_wp2_with fail
  refine (RSum_any _ b xs (h.below ((Below.refl _ _).alloc (Nat.le_refl _) _))).mono ?_
  rintro e w1 ⟨rfl, rfl⟩
  go_wp2
  refine bodyPost_ret (results_cell_row rfl _ _ w.heap.size 25 _ (0, 0) _ rfl (Blk.new w _ _) Try.underlying25 rfl (by kernel_rfl)) rfl ⟨rfl, ?_⟩
  exact (Below.refl _ _).alloc (Nat.le_refl _) _

/-- Three cells that are read, and all that is old, as they were. -/
theorem held3_step {w0 W W' : World} {a b c : Addr} {u v x : Value} (hs : Below w0.heap.size W W') (ha : a.block < w0.heap.size) (hb : b.block < w0.heap.size) (hc : c.block < w0.heap.size)
    (h : (W.cell? a = some u ∧ W.cell? b = some v ∧ W.cell? c = some x) ∧ Below w0.heap.size w0 W) :
    (W'.cell? a = some u ∧ W'.cell? b = some v ∧ W'.cell? c = some x) ∧ Below w0.heap.size w0 W' :=
  ⟨⟨(hs.cell ha).trans h.1.1, (hs.cell hb).trans h.1.2.1, (hs.cell hc).trans h.1.2.2⟩, h.2.trans hs⟩
theorem held3_start {w0 : World} {a b c : Addr} {u v x : Value} (ha : w0.cell? a = some u) (hb : w0.cell? b = some v) (hc : w0.cell? c = some x) :
    (w0.drew.cell? a = some u ∧ w0.drew.cell? b = some v ∧ w0.drew.cell? c = some x) ∧ Below w0.heap.size w0 w0.drew :=
  ⟨⟨ha, hb, hc⟩, (Below.refl _ _).drew⟩

set_option maxHeartbeats 2000000 in
theorem RWrite_any (w : World) (a b s : Int) (hs : 0 ≤ s ∧ s < 4294967296) :
    Calls Try.prog 9 #[.agg (tcells a b s)] w (Wrote w (writeS a b s)) := by
  unfold tcells
  by_cases ha : inNum a = true
  · by_cases hb : inNum b = true
    · have e : writeS a b s = (tagW a b s, 0) := by simp [writeS, ha, hb]
      rw [e]
      have har := inNum_in ha
      have hbr := inNum_in hb
      have HA := hide ha
      have HB := hide hb
      clear e ha hb
      go_enter Try.func9, Try.ntmps9
      go_wp2_with fail
      refine (small_any _ a).mono ?_
      rintro e w1 ⟨rfl, rfl⟩
      rw [HA.out]
      go_wp2_with fail
      refine (small_any _ b).mono ?_
      rintro e w1 ⟨rfl, rfl⟩
      rw [HB.out]
      have hb0 : Below w.heap.size w (w.alloc (.cells #[.int .i64 a, .int .i64 b, .int .u32 s] 25)) := (Below.refl _ _).alloc (Nat.le_refl _) _
      have hk : Blk (w.alloc (.cells #[.int .i64 a, .int .i64 b, .int .u32 s] 25)) w.heap.size #[.int .i64 a, .int .i64 b, .int .u32 s] 25 := Blk.new w _ _
      have c0 := (hk.cell 0).trans (show _ = some (Value.int .i64 a) from rfl)
      have c1 := (hk.cell 1).trans (show _ = some (Value.int .i64 b) from rfl)
      have c2 := (hk.cell 2).trans (show _ = some (Value.int .u32 s) from rfl)
      have hA := hk.lt
      have HC := hide (held3_start c0 c1 c2)
      have HL1 := hide (show (([] : List Int) ++ low a (held 4)).length ≤ 140737488355000 by rw [show held 4 = 4 from rfl]; simp [low_length])
      have HL2 := hide (show ((([] : List Int) ++ low a (held 4)) ++ low b (held 4)).length ≤ 140737488355000 by rw [show held 4 = 4 from rfl]; simp [low_length])
      have HWA := hide (show IntKind.u64.wrap a = a by rw [IntKind.wrap_u64]; omega)
      have HWB := hide (show IntKind.u64.wrap b = b by rw [IntKind.wrap_u64]; omega)
      have HWS := hide (show IntKind.u64.wrap s = s by rw [IntKind.wrap_u64]; omega)
      clear c0 c1 c2
      go_wp2_with fail
      generalize w.alloc (.cells #[.int .i64 a, .int .i64 b, .int .u32 s] 25) = wa at *
      clear hk
      go_region_held3 (fun w' => (w'.cell? ⟨w.heap.size, 0, none⟩ = some (.int .i64 a) ∧ w'.cell? ⟨w.heap.size, 1, none⟩ = some (.int .i64 b) ∧ w'.cell? ⟨w.heap.size, 2, none⟩ = some (.int .u32 s)) ∧ Below wa.heap.size wa w')
        (first
          | assumption
          | exact HC.out
          | exact held3_step (hb3.mono (held_size (by assumption))) hA hA hA (by assumption)
          | exact held3_step (hb2.mono (held_size (by assumption))) hA hA hA (by assumption)
          | exact held3_step (hb1.mono (held_size (by assumption))) hA hA hA (by assumption))
        (first
          | (go_at_call_of 20 (Value.slice none 0 0); (try rw [HWA.out]); refine (refPut_any _ _ [] a 4 (Row.nil _) (by simp) (by omega) (by omega)).mono ?_; rintro e w1 ⟨u1, rfl, ho1, hb1⟩)
          | (go_at_call_of 20 u1; (try rw [HWB.out]); refine (refPut_any _ _ _ b 4 ho1.row HL1.out (by omega) (by omega)).mono ?_; rintro e w2 ⟨u2, rfl, ho2, hb2⟩)
          | (go_at_call_of 20 u2; (try rw [HWS.out]); refine (refPut_any _ _ _ s 4 ho2.row HL2.out (by omega) (by omega)).mono ?_; rintro e w3 ⟨u3, rfl, ho3, hb3⟩))
      all_goals
        have hB3 : Below w.heap.size w w3 := hb0.trans ((held_below (by assumption)).mono hb0.size)
        have hO3 : Own w2.heap.size w3 u3 (tag12 a b s) := ho3
        have HSW := hide (show IntKind.u64.wrap (sumS (tag12 a b s)) = sumS (tag12 a b s) by have := sumS_range (tag12 a b s); rw [IntKind.wrap_u64]; omega)
        have hsr := sumS_range (tag12 a b s)
        clear ho1 ho2 ho3 hb1 hb2 hb3
        go_wp2_with fail
        refine (RSum_any w3 u3 (tag12 a b s) hO3.row).mono ?_
        rintro e w4 ⟨rfl, rfl⟩
        go_wp2_with fail
        (try rw [HSW.out])
        refine (refPut_any w4 u3 (tag12 a b s) (sumS (tag12 a b s)) 4 hO3.row (by rw [tag12_length]; omega) (sumS_range _).1 (by omega)).mono ?_
        rintro e w5 ⟨u5, rfl, ho5, hb5⟩
        go_wp2
        go_ret2
        exact ⟨u5, rfl, ho5.mono hB3.size, hB3.trans (hb5.mono hB3.size)⟩
    · have e : writeS a b s = ([], 1) := by simp [writeS, ha, hb]
      rw [e]
      have HA := hide ha
      have HB := hide (show inNum b = false by simpa using hb)
      clear e ha hb
      go_enter Try.func9, Try.ntmps9
      go_wp2_with fail
      refine (small_any _ a).mono ?_
      rintro e w1 ⟨rfl, rfl⟩
      rw [HA.out]
      go_wp2_with fail
      refine (small_any _ b).mono ?_
      rintro e w1 ⟨rfl, rfl⟩
      rw [HB.out]
      go_wp2
      go_ret2
      exact ⟨_, rfl, Own.nil _ _, (Below.refl _ _).alloc (Nat.le_refl _) _⟩
  · have e : writeS a b s = ([], 1) := by simp [writeS, ha]
    rw [e]
    have HA := hide (show inNum a = false by simpa using ha)
    clear e ha
    go_enter Try.func9, Try.ntmps9
    go_wp2_with fail
    refine (small_any _ a).mono ?_
    rintro e w1 ⟨rfl, rfl⟩
    rw [HA.out]
    go_wp2
    go_ret2
    exact ⟨_, rfl, Own.nil _ _, (Below.refl _ _).alloc (Nat.le_refl _) _⟩
end Go.Proofs.Ytfacmeblldljdaa
