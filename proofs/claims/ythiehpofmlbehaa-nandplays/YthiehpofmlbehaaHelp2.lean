/-
  The contracts of the helpers that copy and hold against each other: Own, Same, Plain, Kept, at bytes.
-/
import Derived.Test.YthiehpofmlbehaaMem2
import Derived.OpenShut
import Derived.Deep.RegionWith
namespace Go.Proofs.Ythiehpofmlbehaa
open Go.RowKit
set_option linter.unusedVariables false

/-- All cells of an owned row up to its capacity, whatever they are. -/
theorem owns_full {w : World} {base : Nat} {e : TypeId} {g n cap : Nat} {xs : List Value} (h : w.ownsRow base e 1 (.slice (some ⟨g, 0, none⟩) n cap) n xs) :
    n ≤ cap ∧ ∃ ys, ys.length = cap - n ∧ w.ownsRow base e 1 (.slice (some ⟨g, 0, none⟩) cap cap) cap (xs ++ ys) := by
  rcases h.2 with ⟨h', _⟩ | ⟨g', cap', cur, h', hb, hg, hnc, hcm, hcs, htake⟩
  · simp at h'
  · simp only [Value.slice.injEq, Option.some.injEq, Addr.mk.injEq, and_true, true_and] at h'
    obtain ⟨rfl, rfl⟩ := h'
    rw [Nat.mul_one] at hcs htake
    refine ⟨hnc, cur.toList.drop n, by simp [hcs], ?_⟩
    have e1 : xs ++ cur.toList.drop n = cur.toList := by rw [← htake, List.take_append_drop]
    rw [e1]
    exact ⟨by simp [hcs], .inr ⟨g, cap, cur, rfl, hb, hg, Nat.le_refl _, hcm, by rw [Nat.mul_one, hcs], by rw [Nat.mul_one, List.take_of_length_le (by simp [hcs])]⟩⟩

/-- Its first n cells alone. -/
theorem owns_cut {w : World} {base : Nat} {e : TypeId} {g n cap : Nat} {xs : List Value} (h : w.ownsRow base e 1 (.slice (some ⟨g, 0, none⟩) cap cap) cap xs) (hn : n ≤ cap) :
    w.ownsRow base e 1 (.slice (some ⟨g, 0, none⟩) n cap) n (xs.take n) := by
  have hl : xs.length = cap := by simpa using h.1
  rcases h.2 with ⟨h', _⟩ | ⟨g', cap', cur, h', hb, hg, hnc, hcm, hcs, htake⟩
  · simp at h'
  · simp only [Value.slice.injEq, Option.some.injEq, Addr.mk.injEq, and_true, true_and] at h'
    obtain ⟨rfl, rfl⟩ := h'
    refine ⟨by simp [hl]; omega, .inr ⟨g, cap, cur, rfl, hb, hg, hn, hcm, hcs, ?_⟩⟩
    rw [← htake, List.take_take]
    congr 1
    omega

theorem set_fill (xs : List Int) (ys : List Value) (f : Int) (k : Nat) (hk : k < ys.length) : (bv xs ++ (List.replicate k (Value.int .u8 f) ++ ys.drop k)).set (xs.length + k) (.int .u8 f) = bv xs ++ (List.replicate (k + 1) (Value.int .u8 f) ++ ys.drop (k + 1)) := by
  rw [List.set_append_right _ _ (by rw [bv_length]; omega), bv_length, Nat.add_sub_cancel_left, List.set_append_right _ _ (by simp), List.length_replicate, Nat.sub_self, List.drop_eq_getElem_cons hk, List.set_cons_zero, List.replicate_succ']
  simp

set_option maxHeartbeats 1000000 in
/-- Own: a copy with three spare places behind it, which hold the filling. -/
theorem Own_any (w : World) (v : Value) (xs : List Int) (f : Int) (h : Row w v xs) (hn : xs.length ≤ 1000000) :
    Calls Try.prog 20 #[v, .int .u8 f] w fun e w' =>
      e = .returned (.slice (some ⟨w.heap.size, 0, none⟩) xs.length (xs.length + 3)) ∧ w'.ownsRow w.heap.size 5 1 (.slice (some ⟨w.heap.size, 0, none⟩) (xs.length + 3) (xs.length + 3)) (xs.length + 3) (bv xs ++ List.replicate 3 (.int .u8 f)) ∧ Below w.heap.size w w' := by
  obtain ⟨i0, hi, hz0, hz1, hz2⟩ := info_parts infoByte
  obtain ⟨ao, cap, rfl, h1, h2, h3, h4, h5⟩ := h
  have hL : (bv xs).length = xs.length * 1 := by simp [bv_length]
  have HF : Hid (∀ (ys : List Value) (k : Nat), k < ys.length → (bv xs ++ (List.replicate k (Value.int .u8 f) ++ ys.drop k)).set (xs.length + k) (.int .u8 f) = bv xs ++ (List.replicate (k + 1) (Value.int .u8 f) ++ ys.drop (k + 1))) := fun ys k hk => set_fill xs ys f k hk
  generalize hl : xs.length = len at *
  have hlen : (bv xs).length = len := by rw [bv_length]; exact hl
  go_enter Try.func20, Try.ntmps20
  go_wp2_with (at_make; refine wpList_make_own _ rfl _ _ 43 rfl w.heap.size 5 i0 (.int .u8 0) 1 Try.underlying43 hi hz0 hz1 _ _ _ (len + 3) rfl rfl (by omega) ?b2 ?b3 (Nat.le_refl _) ?_)
  case b2 => rw [hz2]; omega
  case b3 => unfold maxLen; omega
  intro w0 hown0 hgrow0
  have hcell : ∀ ad, ao = some ad → ∀ j u, (bv xs)[j]? = some u → w0.cell? (ad.add j) = some u := fun ad had j u hu => hgrow0.cell (h4 ad had j u hu) (by simp)
  go_wp2_with (at_builtin; refine wpList_append_fits_any _ rfl _ _ 43 rfl w.heap.size 5 i0 1 Try.underlying43 hi hz1 w.heap.size 0 (len + 3) _ rfl hown0 ao len cap (bv xs) rfl hL (fun e => ⟨by have := h3 e; omega, h3 e⟩) hcell (bv_one xs) (by omega) ?_)
  intro w1 hown1 hgrow1
  have hb1 : Below w.heap.size w w1 := ((Below.refl _ _).grown hgrow0 (Nat.le_refl _) (fun k e => by cases e)).grown hgrow1 hgrow0.size (fun k e => by cases e; exact Nat.le_refl _)
  have hown2 : w1.ownsRow w.heap.size 5 1 (.slice (some ⟨w.heap.size, 0, none⟩) len (len + 3)) len (bv xs) := by simpa using hown1
  obtain ⟨_, ys, hys, hfull⟩ := owns_full hown2
  have HY : Hid (ys.length = 3) := by unfold Hid; omega
  clear hown0 hown1 hown2 hgrow0 hgrow1 hcell h4 hys
  go_wp2
  go_loopw [7] (fun i wr => ∃ k : Nat, k ≤ 3 ∧ i = .int .i64 ((len : Int) + k) ∧ wr.ownsRow w.heap.size 5 1 (.slice (some ⟨w.heap.size, 0, none⟩) (len + 3) (len + 3)) (len + 3) (bv xs ++ (List.replicate k (Value.int .u8 f) ++ ys.drop k)) ∧ Below w.heap.size w wr) (fun i _ => len + 3 - (intOf i).toNat)
  case atStart => exact ⟨0, Nat.zero_le _, by simp, by simpa using hfull, hb1⟩
  case round =>
    obtain ⟨k, hk, rfl, hok, hbk⟩ := hrel
    by_cases hlt : k < 3
    · have hce : ∃ u, wr.cell? ⟨w.heap.size, len + k, none⟩ = some u := by
        rw [hok.cellAt (len + k) (by omega)]
        refine ⟨_, List.getElem?_eq_getElem ?_⟩
        have := HY.out
        simp [hlen]
        omega
      obtain ⟨u, hce⟩ := hce
      have hfz := hok.frozenAt (len + k)
      have hst := hok.stored (len + k) (.int .u8 f)
      have R := hst.1
      rw [HF.out ys k (by rw [HY.out]; exact hlt)] at R
      have G : Below w.heap.size w (wr.setCell ⟨w.heap.size, len + k, none⟩ (.int .u8 f)) := hbk.setCell (Nat.le_refl _) _
      have hk' : (k : Int) < 3 := by omega
      clear hst hok hbk
      go_wp2
      exact ⟨⟨k + 1, by omega, by go_num, R, G⟩, by simp [intOf]; omega⟩
    · obtain rfl : k = 3 := by omega
      have hd : ys.drop 3 = [] := List.drop_of_length_le (by rw [HY.out]; exact Nat.le_refl _)
      rw [hd, List.append_nil] at hok
      have HO := (show Hid _ from hok)
      clear hok hd hfull
      go_wp2
      go_ret
      exact ⟨rfl, HO.out, hbk⟩

/-- Only draws: all memory is as it was. -/
def Still (w w' : World) : Prop := ∀ B, Below B w w'
theorem Still.refl (w : World) : Still w w := fun B => Below.refl B w
theorem Still.trans {a b c : World} (h : Still a b) (k : Still b c) : Still a c := fun B => (h B).trans (k B)
theorem Still.drew {a w : World} (h : Still a w) : Still a w.drew := fun B => (h B).drew
theorem Still.cell {w w' : World} (h : Still w w') (a : Addr) : w'.cell? a = w.cell? a := (h (a.block + 1)).cell (by omega)
theorem Still.size {w w' : World} (h : Still w w') : w'.heap.size = w.heap.size := by
  have h1 := (h 0).size
  rcases Nat.lt_or_ge w.heap.size w'.heap.size with h2 | h2
  · have h3 := (h (w.heap.size + 1)).block w.heap.size (by omega)
    rw [Array.getElem?_eq_none (Nat.le_refl _), Array.getElem?_eq_getElem h2] at h3
    cases h3
  · omega
theorem Still.row {w w' : World} {v : Value} {xs : List Int} (h : Still w w') (r : Row w v xs) : Row w' v xs := r.below (h _)

theorem getD_eq {xs : List Int} {k : Nat} (h : k < xs.length) : xs.getD k 0 = xs[k] := by simp [List.getD, List.getElem?_eq_getElem h]

set_option maxHeartbeats 400000 in
theorem one_any (w : World) (x y : Int) : Calls Try.prog 58 #[.int .u8 x, .int .u8 y] w fun e w' => e = .returned (.bool (x == y)) ∧ w' = w := by
  go_enter Try.func58, Try.ntmps58
  go_wp2
  go_ret
  exact ⟨rfl, rfl⟩

theorem take_all_eq {xs ys : List Int} {n : Nat} (hx : xs.length = n) (hy : ys.length = n) (h : xs.take n = ys.take n) : xs = ys := by
  rw [List.take_of_length_le (by omega), List.take_of_length_le (by omega)] at h; exact h
theorem take_more {xs ys : List Int} {k : Nat} (hx : k < xs.length) (hy : k < ys.length) (h : xs.take k = ys.take k) (e : xs.getD k 0 = ys.getD k 0) : xs.take (k + 1) = ys.take (k + 1) := by
  rw [List.take_succ_eq_append_getElem hx, List.take_succ_eq_append_getElem hy, h, ← getD_eq hx, ← getD_eq hy, e]

set_option maxHeartbeats 1000000 in
theorem Same_any (w : World) (a b : Value) (xs ys : List Int) (ha : Row w a xs) (hb : Row w b ys) :
    Calls Try.prog 57 #[a, b, .func (.func 58) #[] #[]] w fun e w' => e = .returned (.bool (decide (xs = ys))) ∧ Still w w' := by
  have hxm := ha.len
  have hym := hb.len
  unfold maxLen at hxm hym
  by_cases hn : xs.length = ys.length
  · by_cases h0 : xs.length = 0
    · have e1 : xs = [] := List.eq_nil_of_length_eq_zero h0
      have e2 : ys = [] := List.eq_nil_of_length_eq_zero (by omega)
      subst e1 e2
      obtain ⟨ao, acap, hav⟩ := ha.of_len
      obtain ⟨bo, bcap, hbv⟩ := hb.of_len
      subst hav hbv
      simp only [List.length_nil]
      go_enter Try.func57, Try.ntmps57
      go_wp2
      refine wp_loop_rounds 1 ?_
      rw [rounds_succ]
      go_wp2
      go_ret
      exact ⟨rfl, Still.refl _⟩
    · obtain ⟨ab, ao, acap, rfl, _, hab, hac⟩ := ha.at (by intro e; subst e; simp at h0)
      obtain ⟨bb, bo, bcap, rfl, _, hbb, hbc⟩ := hb.at (by intro e; rw [e] at hn; exact h0 hn)
      rw [← hn]
      have HY : Hid (ys.length = xs.length) := hn.symm
      generalize hL : xs.length = len at *
      have HX : Hid (xs.length = len) := hL
      clear hn hL ha hb
      go_enter Try.func57, Try.ntmps57
      go_wp2
      go_loopw [7] (fun i wr => ∃ k : Nat, k ≤ len ∧ i = .int .i64 k ∧ xs.take k = ys.take k ∧ Still w wr) (fun i _ => len - (intOf i).toNat)
      case atStart => exact ⟨0, Nat.zero_le _, rfl, by simp, Still.refl _⟩
      case round =>
        obtain ⟨k, hk, rfl, htk, hst⟩ := hrel
        have HT : Hid (xs.take k = ys.take k) := htk
        clear htk
        by_cases hlt : k < len
        · have hA : wr.cell? ⟨ab, ao + k, none⟩ = some (.int .u8 (xs.getD k 0)) := (hst.cell _).trans (hac k hlt)
          have hB : wr.cell? ⟨bb, bo + k, none⟩ = some (.int .u8 (ys.getD k 0)) := (hst.cell _).trans (hbc k (by rw [HY.out]; exact hlt))
          obtain ⟨x, hx⟩ : ∃ x, x = xs.getD k 0 := ⟨_, rfl⟩
          obtain ⟨y, hy⟩ : ∃ y, y = ys.getD k 0 := ⟨_, rfl⟩
          rw [← hx] at hA
          rw [← hy] at hB
          have HXk : Hid (x = xs.getD k 0) := hx
          have HYk : Hid (y = ys.getD k 0) := hy
          have hlt' : (k : Int) < len := by omega
          clear hx hy
          by_cases he : x = y
          · subst he
            go_wp2_with fail
            go_region_with (go_at_call 58; refine (one_any _ _ _).mono ?_; rintro e w' ⟨rfl, rfl⟩)
            all_goals
              go_wp2
              exact ⟨⟨k + 1, by omega, by go_num, take_more (by rw [HX.out]; exact hlt) (by rw [HY.out]; exact hlt) HT.out (by rw [← HXk.out, ← HYk.out]), hst.drew⟩, by simp [intOf]; omega⟩
          · have hne : (x == y) = false := by simpa using he
            have hd : decide (xs = ys) = false := decide_eq_false (fun e => he (by rw [HXk.out, HYk.out, e]))
            have HD : Hid (decide (xs = ys) = false) := hd
            clear hd
            go_wp2_with fail
            go_region_with (go_at_call 58; refine (one_any _ _ _).mono ?_; rintro e w' ⟨rfl, rfl⟩)
            all_goals
              go_wp2
              go_ret
              exact ⟨ret_one (congrArg Value.bool HD.out.symm), hst.drew⟩
        · obtain rfl : k = len := by omega
          have hd : decide (xs = ys) = true := decide_eq_true (take_all_eq HX.out HY.out HT.out)
          have HD : Hid (decide (xs = ys) = true) := hd
          clear hd
          go_wp2
          go_ret
          exact ⟨ret_one (congrArg Value.bool HD.out.symm), hst⟩
  · obtain ⟨ao, acap, hav⟩ := ha.of_len
    obtain ⟨bo, bcap, hbv⟩ := hb.of_len
    subst hav hbv
    have hne : ((xs.length : Int) != (ys.length : Int)) = true := by simp; omega
    have hd : decide (xs = ys) = false := decide_eq_false (fun e => hn (by rw [e]))
    rw [hd]
    clear ha hb hd
    generalize xs.length = n at *
    generalize ys.length = m at *
    go_enter Try.func57, Try.ntmps57
    go_wp2
    go_ret
    exact ⟨rfl, Still.refl _⟩

set_option maxHeartbeats 1000000 in
theorem Plain_any (w : World) (a b : Value) (xs ys : List Int) (ha : Row w a xs) (hb : Row w b ys) :
    Calls Try.prog 48 #[a, b] w fun e w' => e = .returned (.bool (decide (xs = ys))) ∧ Still w w' := by
  go_enter Try.func48, Try.ntmps48
  go_wp2_with fail
  refine (Same_any w a b xs ys ha hb).mono ?_
  rintro e w1 ⟨rfl, hst⟩
  go_wp2
  go_ret
  exact ⟨rfl, hst⟩

set_option maxHeartbeats 1000000 in
/-- Kept: the copy, and its spare places, are as they were. -/
theorem Kept_any (w : World) (g : Nat) (base : Nat) (l : Value) (xs : List Int) (f : Int) (hf : 0 ≤ f ∧ f < 256) (hl : Row w l xs) (hn : xs.length ≤ 1000000)
    (ho : w.ownsRow base 5 1 (.slice (some ⟨g, 0, none⟩) (xs.length + 3) (xs.length + 3)) (xs.length + 3) (bv xs ++ List.replicate 3 (.int .u8 f))) :
    Calls Try.prog 23 #[.slice (some ⟨g, 0, none⟩) xs.length (xs.length + 3), l, .int .u8 f] w fun e w' => e = .returned (.bool true) ∧ Still w w' := by
  have hcut := owns_cut ho (n := xs.length) (by omega)
  rw [List.take_left' (bv_length xs)] at hcut
  have hrow : Row w (.slice (some ⟨g, 0, none⟩) xs.length (xs.length + 3)) xs := Own.row (base := base) ⟨hcut, hl.bys⟩
  have hce : ∀ k, k < 3 → w.cell? ⟨g, xs.length + k, none⟩ = some (.int .u8 f) := by
    intro k hk
    rw [ho.cellAt (xs.length + k) (by omega), List.getElem?_append_right (by rw [bv_length]; omega), bv_length, Nat.add_sub_cancel_left]
    rw [List.getElem?_replicate, if_pos hk]
  obtain ⟨lo, lcap, hlv⟩ := hl.of_len
  have HP := (show Hid _ from Plain_any w _ _ xs xs hrow hl)
  subst hlv
  clear hcut hrow ho hl
  generalize xs.length = len at *
  go_enter Try.func23, Try.ntmps23
  go_wp2_with fail
  refine Calls.mono HP.out ?_
  rintro e w1 ⟨rfl, hst⟩
  have hce1 : ∀ k, k < 3 → w1.cell? ⟨g, len + k, none⟩ = some (.int .u8 f) := fun k hk => (hst.cell _).trans (hce k hk)
  clear hce HP
  simp only [decide_true]
  go_wp2
  go_loop [8] (fun i => ∃ k : Nat, k ≤ 3 ∧ i = .int .i64 ((len : Int) + k)) (fun i => len + 3 - (intOf i).toNat)
  case atStart => exact ⟨0, Nat.zero_le _, by simp⟩
  case round =>
    obtain ⟨k, hk, rfl⟩ := hrel
    by_cases hlt : k < 3
    · have hck := hce1 k hlt
      have hk' : (k : Int) < 3 := by omega
      clear hce1
      go_wp2
      exact ⟨⟨k + 1, by omega, by go_num⟩, by simp [intOf]; omega⟩
    · obtain rfl : k = 3 := by omega
      go_wp2
      go_ret
      exact ⟨rfl, hst⟩
end Go.Proofs.Ythiehpofmlbehaa
