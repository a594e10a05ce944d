/-
  bytes.Repeat of one byte: so many of it; erased cells.
-/
import Derived.Test.YthiehpofmlbehaaStd5
import Derived.Deep.RegionLaw
namespace Go.Proofs.Ythiehpofmlbehaa
open Go.RowKit
set_option linter.unusedVariables false
set_option maxRecDepth 100000

set_option maxHeartbeats 1000000 in
theorem Mul64_one (w : World) (n : Nat) (hn : n < 1000000) : Calls Try.prog 63 #[.int .u64 1, .int .u64 n] w fun e w' => e = .returned (.tuple #[.int .u64 0, .int .u64 n]) ∧ w' = w := by
  have e1 : bits .and .u64 1 4294967295 = 1 := by decide
  have e2 : bits .and .u64 (n : Int) 4294967295 = n := by
    rw [u64_and _ _ (by omega) (by omega) (by omega) (by omega), show ((4294967295 : Int)).toNat = 2 ^ 32 - 1 from rfl, Int.toNat_natCast, Nat.and_two_pow_sub_one_eq_mod]
    omega
  have e3 : (n : Int) / 4294967296 = 0 := by omega
  have e4 : bits .and .u64 0 4294967295 = 0 := by decide
  go_enter Try.func63, Try.ntmps63
  go_wp2
  go_ret2
  exact ⟨rfl, rfl⟩
theorem Mul_one (w : World) (n : Nat) (hn : n < 1000000) : Calls Try.prog 60 #[.int .u64 1, .int .u64 n] w fun e w' => e = .returned (.tuple #[.int .u64 0, .int .u64 n]) ∧ w' = w := by
  have hm := Mul64_one w n hn
  go_enter Try.func60, Try.ntmps60
  go_wp2_with fail
  refine hm.mono ?_
  rintro e w1 ⟨rfl, rfl⟩
  go_wp2
  go_ret2
  exact ⟨rfl, rfl⟩

/-- The first k cells of a list are one byte. -/
def Full (x : Int) (cur : List Value) (k : Nat) : Prop := ∀ j, j < k → cur[j]? = some (.int .u8 x)
theorem Full.splice {x : Int} {cur : List Value} {k m : Nat} (h : Full x cur k) (hl : k + m ≤ cur.length) : Full x (splice cur k (List.replicate m (.int .u8 x))) (k + m) := by
  intro j hj
  unfold Go.splice
  by_cases h1 : j < k
  · rw [List.getElem?_append_left (by simp; omega), List.getElem?_take]
    simp [h1, h j h1]
  · rw [List.getElem?_append_right (by simp; omega), List.getElem?_append_left (by simp; omega)]
    simp only [List.getElem?_replicate, List.length_take, Nat.min_eq_left (show k ≤ cur.length by omega)]
    rw [if_pos (by omega)]

/-- A row of the call's own, or one that is full: what is appended to it goes elsewhere. -/
def Fresh (base : Nat) (w : World) (v : Value) (xs : List Int) : Prop := Own base w v xs ∨ ∃ g, v = .slice (some ⟨g, 0, none⟩) xs.length xs.length ∧ base ≤ g ∧ Row w v xs
theorem Fresh.row {base : Nat} {w : World} {v : Value} {xs : List Int} (h : Fresh base w v xs) : Row w v xs := by
  rcases h with h | ⟨g, _, _, h⟩
  · exact h.row
  · exact h
theorem Fresh.from {base : Nat} {w : World} {v : Value} {xs : List Int} (h : Fresh base w v xs) : ∀ b off n cap, v = .slice (some ⟨b, off, none⟩) n cap → base ≤ b := by
  intro b off n cap hv
  rcases h with h | ⟨g, hv', hb, _⟩
  · exact (h.at0 b off n cap hv).1
  · rw [hv] at hv'; simp at hv'; omega
theorem Fresh.kept {base : Nat} {w w' : World} {v : Value} {xs : List Int} (h : Fresh base w v xs) (hb : Below w.heap.size w w') : Fresh base w' v xs := by
  rcases h with h | ⟨g, hv, hg, h⟩
  · exact .inl (h.kept hb)
  · exact .inr ⟨g, hv, hg, h.below hb⟩

set_option maxHeartbeats 2000000 in
theorem Repeat_any (w : World) (bb : Nat) (x : Int) (n : Nat) (hx : 0 ≤ x ∧ x < 256) (hb : Blk w bb #[.int .u8 x] 5) (h0 : 0 < n) (hn : n ≤ 8000) :
    Calls Try.prog 59 #[.slice (some ⟨bb, 0, none⟩) 1 1, .int .i64 n] w fun e w' => ∃ v, e = .returned v ∧ Fresh w.heap.size w' v (List.replicate n x) ∧ Below w.heap.size w w' := by
  have hbl := hb.lt
  have hbc := hb.cell 0
  simp at hbc
  have hm := Mul_one w n (by omega)
  obtain ⟨cs, hrunM, hle, hmax⟩ := Lib.run_makeNoZero (P := Try.prog) w #[3] 43 5 Try.underlying43 n (by omega)
  have hcall : (callFunc 61 #[.int .i64 (n : Int)]).run Try.prog w = .ok (.value (.slice (some ⟨w.heap.size, 0, none⟩) n cs.size)) ((w.alloc (.cells cs 5)).drewN 2) := by
    rw [run_callFunc_extern Try.func61 (by kernel_rfl) (by kernel_rfl) (by kernel_rfl) (e := Extern.BytealgMakeNoZero.makeNoZero #[3] #[43]) (by kernel_rfl), hrunM]
    rfl
  clear hrunM
  have i0 : (0 : Int) ≤ (n : Int) := by omega
  have i1 : (n : Int) ≤ (cs.size : Int) := by omega
  have i2 : ((n : Int) == 0) = false := by simp; omega
  have hsz : (Try.prog.info? 5).map (·.size) = some 1 := by kernel_rfl
  have hnew : Blk ((w.alloc (.cells cs 5)).drewN 2) w.heap.size cs 5 := Blk.new w cs 5
  have hB : Below w.heap.size w ((w.alloc (.cells cs 5)).drewN 2) := ((Below.refl _ _).alloc (Nat.le_refl _) _).drew.drew
  have hbc2 : ((w.alloc (.cells cs 5)).drewN 2).cell? ⟨bb, 0, none⟩ = some (.int .u8 x) := (hB.cell (by exact hbl)).trans hbc
  obtain ⟨cur, hcur⟩ : ∃ cur, cs = List.toArray cur := ⟨cs.toList, by simp⟩
  subst hcur
  have hcl : cur.length = (List.toArray cur).size := by simp
  have HN := hide hnew
  have HB := hide hB
  have HC2 := hide hbc2
  clear hnew hB hbc2 hbc hb
  generalize hgs : (List.toArray cur).size = gs at *
  go_enter Try.func59, Try.ntmps59
  go_wp2_with fail
  refine hm.mono ?_
  rintro e w1 ⟨rfl, rfl⟩
  have P1 : ([Value.int .u8 x]).length = Nat.min 1 n := by show 1 = min 1 n; omega
  have P2 : ∀ j v, [Value.int .u8 x][j]? = some v → ((w1.alloc (.cells cur.toArray 5)).drewN 2).cell? ((⟨bb, 0, none⟩ : Addr).add j) = some v := by
    intro j v hj
    match j, hj with
    | 0, h => simp at h; subst h; exact HC2.out
    | j + 1, h => simp at h
  have HP2 := hide P2
  clear P2
  go_wp2_with (refine wpList_copy_splice rfl _ _ 43 43 rfl 5 Try.underlying43 hsz _ _ _ _ _ _ rfl rfl w1.heap.size 0 cur 5 HN.out [.int .u8 x] P1 (fun _ => ⟨rfl, _, rfl, HP2.out⟩) (by simp; omega) (by simp [Value.oneCell']) w1.heap.size w1 HB.out (Nat.le_refl _) ?_)
  intro w2 HG2 hB2
  have hF : Full x (splice cur 0 [.int .u8 x]) 1 := (show Full x cur 0 from fun j hj => absurd hj (Nat.not_lt_zero j)).splice (m := 1) (by omega)
  have hL : (splice cur 0 [.int .u8 x]).length = gs := by rw [length_splice _ _ _ (by simp; omega)]; exact hcl
  generalize splice cur 0 [.int .u8 x] = cur1 at *
  clear HN HB HC2 HP2 hcall hgs P1
  go_wp2_with fail
  go_loopw [10] (fun i wr => ∃ (k : Nat) (cur : List Value), 1 ≤ k ∧ k ≤ n ∧ i = .int .i64 k ∧ Blk wr w1.heap.size cur.toArray 5 ∧ cur.length = gs ∧ Full x cur k ∧ Below w1.heap.size w1 wr) (fun i _ => n - (intOf i).toNat)
  case atStart => exact ⟨1, cur1, Nat.le_refl _, by omega, by first | rfl | (rw [show Nat.min 1 n = 1 from by show min 1 n = 1; omega]), HG2.out, hL, hF, hB2⟩
  case round =>
    obtain ⟨k, cur2, hk1, hk2, rfl, hblk, hlen, hful, hbel⟩ := hrel
    by_cases hlt : k < n
    · have hm1 : min (k : Int) (n : Int) = k := by omega
      have P1 : (List.replicate (min k (n - k)) (Value.int .u8 x)).length = Nat.min k (n - k) := by simp
      have P2 : ∀ j v, (List.replicate (min k (n - k)) (Value.int .u8 x))[j]? = some v → wr.drew.cell? ((⟨w1.heap.size, 0, none⟩ : Addr).add j) = some v := by
        intro j v hj
        rw [List.getElem?_replicate] at hj
        split at hj
        · rw [← Option.some.inj hj, Addr.add_lit, Nat.zero_add]
          rw [show wr.drew.cell? ⟨w1.heap.size, j, none⟩ = wr.cell? ⟨w1.heap.size, j, none⟩ from rfl, hblk.cell j, List.getElem?_toArray]
          exact hful j (by omega)
        · cases hj
      have hF2 := hful.splice (m := min k (n - k)) (by omega)
      have hL2 := (length_splice cur2 k (List.replicate (min k (n - k)) (Value.int .u8 x)) (by simp; omega)).trans hlen
      have hfit : k + (List.replicate (min k (n - k)) (Value.int .u8 x)).length ≤ cur2.length := by simp; omega
      have hone : ∀ v ∈ List.replicate (min k (n - k)) (Value.int .u8 x), v.oneCell' = true := by intro v hv; rw [(List.mem_replicate.1 hv).2]; rfl
      have hmm : 1 ≤ min k (n - k) ∧ k + min k (n - k) ≤ n := by omega
      generalize List.replicate (min k (n - k)) (Value.int .u8 x) = cells at *
      have hcl2 : cells.length = min k (n - k) := P1
      obtain ⟨W2, hcp, hG4, hB4⟩ : ∃ W2, (Builtin.copy_ #[43, 43] 3 #[.slice (some ⟨w1.heap.size, k, none⟩) (n - k) (n - k), .slice (some ⟨w1.heap.size, 0, none⟩) k n]).run Try.prog wr.drew = .ok (.int .i64 ((min k (n - k) : Nat) : Int)) W2 ∧ Hid (Blk W2 w1.heap.size (splice cur2 k cells).toArray 5) ∧ Below w1.heap.size w1 W2 := by
        have hbd : wr.drew.heap[w1.heap.size]? = some (.cells cur2.toArray 5 (0, 0)) := hblk
        have := run_copy_row (P := Try.prog) wr.drew 43 43 3 5 w1.heap.size k (n - k) (n - k) ⟨w1.heap.size, 0, none⟩ k n cur2.toArray 5 cells Try.underlying43 hsz hbd P1 P2 (by simpa using hfit) hone
        have e1 : goInt cells.length = Value.int .i64 ((min k (n - k) : Nat) : Int) := by rw [hcl2]; rfl
        rw [e1] at this
        refine ⟨_, this, ?_, below_setRow hbel.drew (Nat.le_refl _) _⟩
        show Blk _ _ _ _
        have h2 := setRow_heap wr.drew w1.heap.size _ (cur2.toArray.toList.take k ++ cells ++ cur2.toArray.toList.drop (k + cells.length)).toArray 5 _ hbd
        simpa [Blk, splice] using h2
      have HF2 := hide hF2
      have HL2 := hide hL2
      clear P1 P2 hF2 hL2 hblk hful hbel HG2 hF hB2 hfit hone hcl2 hlen
      generalize splice cur2 k cells = cur3 at *
      generalize hmv : min k (n - k) = mk at *
      have hk0 : (0 : Int) ≤ (k : Int) := by omega
      have hk3 : (k : Int) ≤ (n : Int) := by omega
      have HM := hide hmm
      go_wp2_with fail
      go_region
      all_goals go_wp2
      all_goals exact ⟨⟨k + mk, cur3, by omega, by have := HM.out; omega, by go_num, hG4.out, HL2.out, HF2.out, hB4⟩, by have := HM.out; simp [intOf]; omega⟩
    · obtain rfl : k = n := by omega
      go_wp2
      go_ret
      refine ⟨_, rfl, .inr ⟨w1.heap.size, by simp, Nat.le_refl _, ?_⟩, hbel⟩
      have hrow := Row.mk (w := wr) (b := w1.heap.size) (off := 0) (cap := k) (xs := List.replicate k x) (by simp) (by unfold maxLen; omega) (fun i hi => by
        have hik : i < k := by simpa using hi
        rw [Nat.zero_add, hblk.cell i, List.getElem?_toArray, hful i hik]
        simp [List.getD, hik]) (fun y hy => by rw [(List.mem_replicate.1 hy).2]; exact hx)
      simpa using hrow

theorem erasedCells_any (w : World) (n : Nat) (h0 : 0 < n) (hn : n ≤ 8000) :
    Calls Try.prog 49 #[.int .i64 n] w fun e w' => ∃ v, e = .returned v ∧ Fresh w.heap.size w' v (List.replicate n 255) ∧ Below w.heap.size w w' := by
  have hr := Repeat_any (w.alloc (.cells #[.int .u8 255] 5)) w.heap.size 255 n (by omega) (Blk.new _ _ _) h0 hn
  have hb : Below w.heap.size w (w.alloc (.cells #[.int .u8 255] 5)) := (Below.refl _ _).alloc (Nat.le_refl _) _
  go_enter Try.func49, Try.ntmps49
  go_wp2_with fail
  refine hr.mono ?_
  rintro e w1 ⟨v, rfl, hv, hB⟩
  have hs := hb.trans (hB.mono hb.size)
  have hf : Fresh w.heap.size w1 v (List.replicate n 255) := by
    rcases hv with h | ⟨g, e, hg, h⟩
    · exact .inl (h.mono hb.size)
    · exact .inr ⟨g, e, Nat.le_trans hb.size hg, h⟩
  obtain ⟨ao, cap, rfl⟩ := hf.row.of_len
  go_wp2
  go_ret
  exact ⟨_, rfl, by simpa using hf, hs⟩
end Go.Proofs.Ythiehpofmlbehaa
