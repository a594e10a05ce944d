/-
  The walk of garretlaw01.CodecBack.
-/
import Derived.Test.YtmkejjeniebllaaAwake01
import Derived.Test.YtmkejjeniebllaaTexts
import Derived.OpenShut
import Derived.Deep.RegionWith
namespace Go.Proofs.Ytmkejjeniebllaa
open Go.RowKit
set_option linter.unusedVariables false

/-- A number, and a text behind it. -/
def item (l : Int) (s : ByteArray) : List Int := low (l % 18446744073709551616) 8 ++ (low s.size 4 ++ bytesIn s)
def items (ls : List Int) (ss : List ByteArray) : List (List Int) := List.zipWith item ls ss
def packed (ls : List Int) (ss : List ByteArray) (k : Nat) : List Int := ((items ls ss).take k).flatten

theorem items_length (ls : List Int) (ss : List ByteArray) : (items ls ss).length = min ls.length ss.length := by simp [items]
theorem items_at {ls : List Int} {ss : List ByteArray} {k : Nat} (h1 : k < ls.length) (h2 : k < ss.length) : (items ls ss)[k]? = some (item (ls.getD k 0) (ss.getD k ByteArray.empty)) := by
  simp [items, List.getElem?_zipWith, List.getElem?_eq_getElem h1, List.getElem?_eq_getElem h2, List.getD]
theorem packed_succ {ls : List Int} {ss : List ByteArray} {k : Nat} (h1 : k < ls.length) (h2 : k < ss.length) : packed ls ss (k + 1) = packed ls ss k ++ item (ls.getD k 0) (ss.getD k ByteArray.empty) := by
  unfold packed
  rw [List.take_add_one, items_at h1 h2]
  simp
/-- What is packed up to n, parted at k. -/
theorem packed_split {ls : List Int} {ss : List ByteArray} {k n : Nat} (hk : k < n) (h1 : k < ls.length) (h2 : k < ss.length) :
    ∃ post, packed ls ss n = packed ls ss k ++ (item (ls.getD k 0) (ss.getD k ByteArray.empty) ++ post) := by
  refine ⟨(((items ls ss).take n).drop (k + 1)).flatten, ?_⟩
  unfold packed
  have e : (items ls ss).take n = ((items ls ss).take n).take (k + 1) ++ ((items ls ss).take n).drop (k + 1) := (List.take_append_drop _ _).symm
  have e2 : ((items ls ss).take n).take (k + 1) = (items ls ss).take (k + 1) := by rw [List.take_take, Nat.min_eq_left (by omega)]
  rw [e2] at e
  conv => lhs; rw [e]
  rw [List.flatten_append, ← List.append_assoc]
  congr 1
  exact packed_succ h1 h2
theorem item_length (l : Int) (s : ByteArray) : (item l s).length = 12 + s.size := by simp [item, low_length, bytesIn_length]; omega
theorem packed_le {ls : List Int} {ss : List ByteArray} {k : Nat} (h1 : k ≤ ls.length) (h2 : k ≤ ss.length) (h : ∀ j, j < k → (ss.getD j ByteArray.empty).size ≤ 100) : (packed ls ss k).length ≤ 112 * k := by
  induction k with
  | zero => simp [packed]
  | succ k ih =>
    rw [packed_succ (by omega) (by omega), List.length_append, item_length]
    have := ih (by omega) (by omega) (fun j hj => h j (by omega))
    have := h k (by omega)
    omega
theorem wrap_back {l : Int} (h : (Lit.int .i64 l).wf = true) : wrap64 (l % 18446744073709551616) = l := by
  have := bounds_i64 h
  unfold wrap64
  omega

theorem IRow.at {k : IntKind} {w : World} {v : Value} {xs : List Int} (h : IRow k w v xs) (h0 : 0 < xs.length) :
    ∃ b off cap, v = .slice (some ⟨b, off, none⟩) xs.length cap ∧ b < w.heap.size ∧ ∀ i, i < xs.length → w.cell? ⟨b, off + i, none⟩ = some (.int k (xs.getD i 0)) := by
  obtain ⟨ao, cap, rfl, h1, h2, h3, h4, h5⟩ := h
  cases ao with
  | none => have := h3 rfl; omega
  | some a =>
    obtain ⟨b, off, spot⟩ := a
    have hc := h4 _ rfl 0 h0
    have hspot : spot = none := by simpa [Addr.add] using World.cell?_spot hc
    subst hspot
    refine ⟨b, off, cap, rfl, World.block_lt_of_cell? w _ (by simpa [Addr.add] using hc), fun i hi => ?_⟩
    have := h4 _ rfl i hi
    simpa [Addr.add_lit] using this
theorem SRow.at {w : World} {v : Value} {xs : List ByteArray} (h : SRow w v xs) (h0 : 0 < xs.length) :
    ∃ b off cap, v = .slice (some ⟨b, off, none⟩) xs.length cap ∧ b < w.heap.size ∧ ∀ i, i < xs.length → w.cell? ⟨b, off + i, none⟩ = some (.string (xs.getD i ByteArray.empty)) := by
  obtain ⟨ao, cap, rfl, h1, h2, h3, h4, h5⟩ := h
  cases ao with
  | none => have := h3 rfl; omega
  | some a =>
    obtain ⟨b, off, spot⟩ := a
    have hc := h4 _ rfl 0 h0
    have hspot : spot = none := by simpa [Addr.add] using World.cell?_spot hc
    subst hspot
    refine ⟨b, off, cap, rfl, World.block_lt_of_cell? w _ (by simpa [Addr.add] using hc), fun i hi => ?_⟩
    have := h4 _ rfl i hi
    simpa [Addr.add_lit] using this

theorem back_step {B B2 : Nat} {w2 : World} {u2 : Value} {xs ls : List Int} {ss : List ByteArray} {k : Nat} {l : Int} {s : ByteArray} (h1 : k < ls.length) (h2 : k < ss.length) (hl : l = ls.getD k 0) (hs : s = ss.getD k ByteArray.empty)
    (ho : Own B2 w2 u2 (xs ++ packed ls ss k ++ low (l % 18446744073709551616) 8 ++ (low s.size 4 ++ bytesIn s))) (hB : B ≤ B2) : Own B w2 u2 (xs ++ packed ls ss (k + 1)) := by
  rw [packed_succ h1 h2, ← hl, ← hs]
  have e : xs ++ packed ls ss k ++ low (l % 18446744073709551616) 8 ++ (low s.size 4 ++ bytesIn s) = xs ++ (packed ls ss k ++ item l s) := by simp [item]
  rw [e] at ho
  exact ho.mono hB

theorem wf_at {ls : List Int} {k : Nat} {w : World} {v : Value} (h : k < ls.length) (h1 : IRow .i64 w v ls) : (Lit.int .i64 (ls.getD k 0)).wf = true := by
  obtain ⟨_, _, _, _, _, _, _, h2⟩ := h1
  rw [show ls.getD k 0 = ls[k] from by simp [List.getD, List.getElem?_eq_getElem h]]
  exact h2 _ (List.getElem_mem h)

/-- What stands at the j-th place of what is packed. -/
theorem back_got {xs ls : List Int} {ss : List ByteArray} {xl j k : Nat} {w : World} {lv : Value} (hx : xs.length = xl) (hj : j < k) (h1 : j < ls.length) (h2 : j < ss.length) (w1 : IRow .i64 w lv ls) (hsz : (ss.getD j ByteArray.empty).size ≤ 100) :
    (wrap64 (getS (xs ++ packed ls ss k) ((xl : Int) + (packed ls ss j).length) 8).1 = ls.getD j 0 ∧ (getS (xs ++ packed ls ss k) ((xl : Int) + (packed ls ss j).length) 8).2 = 0) ∧
    textS (xs ++ packed ls ss k) ((xl : Int) + (packed ls ss j).length + 8) = (bytesIn (ss.getD j ByteArray.empty), (xl : Int) + (packed ls ss j).length + 8 + 4 + (ss.getD j ByteArray.empty).size, 0) ∧
    (xl : Int) + (packed ls ss j).length + 8 + 4 + (ss.getD j ByteArray.empty).size = (xl : Int) + (packed ls ss (j + 1)).length := by
  obtain ⟨post, hp⟩ := packed_split hj h1 h2
  have hw := wf_at h1 w1
  have hl : (packed ls ss (j + 1)).length = (packed ls ss j).length + (12 + (ss.getD j ByteArray.empty).size) := by rw [packed_succ h1 h2, List.length_append, item_length]
  generalize ss.getD j ByteArray.empty = s at *
  generalize ls.getD j 0 = l at *
  refine ⟨?_, ?_, by rw [hl]; omega⟩
  · have e : xs ++ packed ls ss k = (xs ++ packed ls ss j) ++ (low (l % 18446744073709551616) 8 ++ (low s.size 4 ++ bytesIn s ++ post)) := by rw [hp]; simp [item]
    have g := getS_in (pre := xs ++ packed ls ss j) (mid := low (l % 18446744073709551616) 8) (post := low s.size 4 ++ bytesIn s ++ post) (n := 8) (by rw [low_length]; rfl) (by omega) (by omega)
    rw [← e, List.length_append, hx] at g
    rw [show ((xl : Int) + ((packed ls ss j).length : Int)) = ((xl + (packed ls ss j).length : Nat) : Int) from by omega, g, num_low]
    refine ⟨?_, rfl⟩
    show wrap64 (l % 18446744073709551616 % 2 ^ (8 * 8)) = l
    rw [show (2 : Int) ^ (8 * 8) = 18446744073709551616 from by decide, Int.emod_emod_of_dvd _ (Int.dvd_refl _), wrap_back hw]
  · have e : xs ++ packed ls ss k = (xs ++ packed ls ss j ++ low (l % 18446744073709551616) 8) ++ (low s.size 4 ++ (bytesIn s ++ post)) := by rw [hp]; simp [item]
    have t := textS_put (xs ++ packed ls ss j ++ low (l % 18446744073709551616) 8) (bytesIn s) post (by rw [bytesIn_length]; omega)
    rw [bytesIn_length, ← e, List.length_append, List.length_append, hx, low_length] at t
    rw [show ((xl : Int) + ((packed ls ss j).length : Int) + 8) = ((xl + (packed ls ss j).length + 8 : Nat) : Int) from by omega, t]

set_option maxHeartbeats 2000000 in
set_option maxRecDepth 100000 in
theorem CodecBack_walk (bv0 : Value) (xs : List Int) (lv : Value) (ls : List Int) (sv : Value) (ss : List ByteArray) (w : World) (w0 : IRow .u8 w bv0 xs) (w1 : IRow .i64 w lv ls) (w2 : SRow w sv ss) :
    Calls Try.prog 4 #[bv0, lv, sv] w fun e w' => e = .returned (.bool true) ∧ Below w.heap.size w w' := by
  have hbr := w0.bytes
  obtain ⟨bao, bcap, hbv⟩ := hbr.of_len
  by_cases hbig : (100 : Int) < xs.length
  · subst hbv
    obtain ⟨lao, lcap, hlv, _⟩ := w1
    obtain ⟨sao, scap, hsv, _⟩ := w2
    subst hlv hsv
    generalize xs.length = xl at *
    clear w0 hbr
    go_enter Try.func4, Try.ntmps4
    go_wp2_with fail
    refine (awake_any _).mono ?_
    rintro e w5 ⟨rfl, hb5⟩
    go_wp2
    go_ret
    exact ⟨rfl, hb5⟩
  · subst hbv
    generalize hxl : xs.length = xl at *
    have hlmax : (ls.length : Int) ≤ 9223372036854775807 := by obtain ⟨_, _, _, a, b, _⟩ := w1; unfold maxLen at b; omega
    have hsmax : (ss.length : Int) ≤ 9223372036854775807 := by obtain ⟨_, _, _, a, b, _⟩ := w2; unfold maxLen at b; omega
    obtain ⟨lao, lcap, hlv⟩ : ∃ ao cap, lv = .slice ao ls.length cap := by obtain ⟨ao, cap, h, _⟩ := w1; exact ⟨ao, cap, h⟩
    obtain ⟨sao, scap, hsv⟩ : ∃ ao cap, sv = .slice ao ss.length cap := by obtain ⟨ao, cap, h, _⟩ := w2; exact ⟨ao, cap, h⟩
    subst hlv hsv
    go_enter Try.func4, Try.ntmps4
    go_wp2_with (at_builtin; refine wpList_append_row rfl _ _ rfl w.heap.size _ _ [] xs rfl (Own.nil _ _) rfl hbr (by simp; omega) (Nat.le_refl _) ?_)
    intro v1 wb hob hgb
    have hbb : Below w.heap.size w wb := (Own.nil w.heap.size w).grown_below (Below.refl _ _) hgb (Nat.le_refl _) (Nat.le_refl _)
    go_wp2
    go_loopw [7, 8] (fun x i wr => ∃ k : Nat, k ≤ ls.length ∧ k ≤ ss.length ∧ k ≤ 20 ∧ i = .int .i64 k ∧ Own w.heap.size wr x (xs ++ packed ls ss k) ∧ (∀ j, j < k → (ss.getD j ByteArray.empty).size ≤ 100) ∧ Below w.heap.size w wr)
      (fun _ i _ => 20 - (intOf i).toNat)
    case atStart => exact ⟨0, Nat.zero_le _, Nat.zero_le _, Nat.zero_le _, rfl, by simpa [packed] using hob, (fun j h => by omega), hbb⟩
    case round =>
      obtain ⟨k, hk1, hk2, hk3, rfl, hok, hsm, hbk⟩ := hrel
      by_cases hlt : k < ls.length ∧ k < ss.length ∧ k < 20
      · obtain ⟨hl1, hl2, hl3⟩ := hlt
        obtain ⟨lb, lo, lc, hlv, hlb, hlc⟩ := w1.at (by omega)
        obtain ⟨sb, so, sc, hsv, hsb, hsc⟩ := w2.at (by omega)
        simp only [Value.slice.injEq, true_and] at hlv hsv
        obtain ⟨rfl, rfl⟩ := hlv
        obtain ⟨rfl, rfl⟩ := hsv
        have hL : wr.cell? ⟨lb, lo + k, none⟩ = some (.int .i64 (ls.getD k 0)) := (hbk.cell (by exact hlb)).trans (hlc k hl1)
        have hS : wr.cell? ⟨sb, so + k, none⟩ = some (.string (ss.getD k ByteArray.empty)) := (hbk.cell (by exact hsb)).trans (hsc k hl2)
        obtain ⟨s, hs⟩ : ∃ s, s = ss.getD k ByteArray.empty := ⟨_, rfl⟩
        obtain ⟨l, hl⟩ : ∃ l, l = ls.getD k 0 := ⟨_, rfl⟩
        rw [← hs] at hS
        rw [← hl] at hL
        have HL : Hid (l = ls.getD k 0) := hl
        have HS : Hid (s = ss.getD k ByteArray.empty) := hs
        clear hs hl hlc hsc
        have i1 : (k : Int) < ls.length := by omega
        have i2 : (k : Int) < ss.length := by omega
        have i3 : (k : Int) < 20 := by omega
        have HSM : Hid (∀ j, j < k → (ss.getD j ByteArray.empty).size ≤ 100) := hsm
        clear hsm
        by_cases hbs : (100 : Int) < s.size
        · go_wp2_with fail
          refine (awake_any _).mono ?_
          rintro e w5 ⟨rfl, hb5⟩
          go_wp2
          go_ret
          exact ⟨rfl, hbk.trans (hb5.mono hbk.size)⟩
        · have hpl : (xs ++ packed ls ss k).length ≤ 2440 := by have := packed_le hk1 hk2 HSM.out; rw [List.length_append, hxl]; omega
          have HPL : Hid ((xs ++ packed ls ss k).length ≤ 2440) := hpl
          have hlw : (Lit.int .i64 l).wf = true := by
            obtain ⟨_, _, _, _, _, _, _, h⟩ := w1
            rw [HL.out, show ls.getD k 0 = ls[k] from by simp [List.getD, List.getElem?_eq_getElem hl1]]
            exact h _ (List.getElem_mem hl1)
          have HLW : Hid ((Lit.int .i64 l).wf = true) := hlw
          clear hpl hlw
          go_wp2_with fail
          go_region_with (first
            | (go_at_call 17; refine (PutInt_any _ _ (xs ++ packed ls ss k) l (by exact hok.row) (by have := HPL.out; omega) HLW.out).mono ?_; rintro e w1 ⟨u1, rfl, ho1, hb1⟩; have hS1 : w1.cell? ⟨sb, so + k, none⟩ = some (.string s) := (hb1.cell (p := ⟨sb, so + k, none⟩) (by exact Nat.lt_of_lt_of_le hsb hbk.size)).trans hS)
            | (go_at_call 18; refine (PutText_any _ _ (xs ++ packed ls ss k ++ low (l % 18446744073709551616) 8) s (by exact ho1.row) (by have := HPL.out; rw [List.length_append, low_length]; omega)).mono ?_; rintro e w2 ⟨u2, rfl, ho2, hb2⟩))
          all_goals
            have hB : w.heap.size ≤ w1.heap.size := Nat.le_trans hbk.size hb1.size
            have R := back_step hl1 hl2 HL.out HS.out ho2 hB
            have G : Below w.heap.size w w2 := (hbk.trans ⟨hb1.os, hb1.tape, hb1.output, hb1.size, fun i hi => hb1.block i (Nat.lt_of_lt_of_le hi hbk.size)⟩).trans (hb2.mono hB)
            clear ho1 ho2 hb1 hb2 hok
            go_wp2
            go_roundw
            case rel => exact ⟨k + 1, by omega, by omega, by omega, by go_num, R, (fun j hj => by by_cases e : j = k; (· subst e; rw [← HS.out]; omega); (· exact HSM.out j (by omega))), G⟩
            case measure => simp [intOf]; omega
      · obtain ⟨wo, rfl⟩ : ∃ wo : World, wo = wr := ⟨_, rfl⟩
        have hpk := packed_le hk1 hk2 hsm
        have HSM : Hid (∀ j, j < k → (ss.getD j ByteArray.empty).size ≤ 100) := hsm
        obtain ⟨xao, xcap, hxv⟩ := hok.row.of_len
        have hXl : (xs ++ packed ls ss k).length = xl + (packed ls ss k).length := by rw [List.length_append, hxl]
        rw [hXl] at hxv
        subst hxv
        have HXl : Hid ((xs ++ packed ls ss k).length = xl + (packed ls ss k).length) := hXl
        have hnot : ¬ ((k : Int) < ls.length ∧ (k : Int) < ss.length ∧ (k : Int) < 20) := by omega
        clear hXl hsm hlt
        generalize hpl : (packed ls ss k).length = pl at *
        have HPL : Hid ((packed ls ss k).length = pl) := hpl
        clear hpl
        have hokr := hok.row
        rcases (show (¬ (k : Int) < ls.length) ∨ ((k : Int) < ls.length ∧ ¬ (k : Int) < ss.length) ∨ ((k : Int) < ls.length ∧ (k : Int) < ss.length ∧ ¬ (k : Int) < 20) from by omega) with hq | ⟨hq, hq2⟩ | ⟨hq, hq2, hq3⟩
        all_goals
          clear hnot
          go_wp2
          go_loopw [9, 10] (fun t i wr => ∃ j : Nat, j ≤ k ∧ i = .int .i64 j ∧ t = .int .i64 ((xl : Int) + (packed ls ss j).length) ∧ wr = wo) (fun _ i _ => k - (intOf i).toNat)
          case atStart => exact ⟨0, Nat.zero_le _, rfl, by simp [packed], rfl⟩
          case round =>
            obtain ⟨j, hj, rfl, rfl, rfl⟩ := hrel
            by_cases hlt : j < k
            · have hl1 : j < ls.length := by omega
              have hl2 : j < ss.length := by omega
              obtain ⟨lb, lo, lc, hlv, hlb, hlc⟩ := w1.at (by omega)
              obtain ⟨sb, so, sc, hsv, hsb, hsc⟩ := w2.at (by omega)
              simp only [Value.slice.injEq, true_and] at hlv hsv
              obtain ⟨rfl, rfl⟩ := hlv
              obtain ⟨rfl, rfl⟩ := hsv
              have hL : wr.cell? ⟨lb, lo + j, none⟩ = some (.int .i64 (ls.getD j 0)) := (hbk.cell (by exact hlb)).trans (hlc j hl1)
              have hS : wr.cell? ⟨sb, so + j, none⟩ = some (.string (ss.getD j ByteArray.empty)) := (hbk.cell (by exact hsb)).trans (hsc j hl2)
              obtain ⟨g8, g4, gn⟩ := back_got (xs := xs) (xl := xl) hxl hlt hl1 hl2 w1 (Hid.out HSM j hlt)
              obtain ⟨s, hs⟩ : ∃ s, s = ss.getD j ByteArray.empty := ⟨_, rfl⟩
              obtain ⟨l, hl⟩ : ∃ l, l = ls.getD j 0 := ⟨_, rfl⟩
              have hsz := Hid.out HSM j hlt
              rw [← hs] at hS g4 gn hsz
              rw [← hl] at hL g8
              have hpj : (packed ls ss j).length ≤ 112 * j := packed_le (by omega) (by omega) (fun i hi => Hid.out HSM i (by omega))
              generalize (packed ls ss j).length = pj at *
              have G8 : Hid _ := g8
              have G4 : Hid _ := g4
              have GN : Hid _ := gn
              clear hs hl hlc hsc g8 g4 gn
              have i1 : (j : Int) < ls.length := by omega
              have i2 : (j : Int) < ss.length := by omega
              have i3 : (j : Int) < 20 := by omega
              have i4 : (j : Int) < k := by omega
              go_wp2_with fail
              refine (GetInt_any _ _ (xs ++ packed ls ss k) ((xl : Int) + pj) (by exact hokr) (wf_i64 (by omega) (by omega))).mono ?_
              rintro e wx ⟨rfl, rfl⟩
              rw [G8.out.1, G8.out.2]
              go_wp2_with fail
              refine (GetText_any _ _ (xs ++ packed ls ss k) ((xl : Int) + pj + 8) (by exact hokr) (wf_i64 (by omega) (by omega))).mono ?_
              rintro e wy ⟨rfl, rfl⟩
              rw [G4.out, strOfNums_bytesIn]
              go_wp2
              exact ⟨⟨j + 1, by omega, by go_num, congrArg (Value.int .i64) GN.out, trivial⟩, by simp [intOf]; omega⟩
            · obtain rfl : j = k := by omega
              rw [HPL.out]
              go_wp2_with fail
              refine (GetText_any _ _ (xs ++ packed ls ss j) ((xl : Int) + pl) (by exact hokr) (wf_i64 (by omega) (by omega))).mono ?_
              rintro e wx ⟨rfl, rfl⟩
              have ht : textS (xs ++ packed ls ss j) ((xl : Int) + pl) = ([], 0, 3) := by
                have h := textS_end (xs ++ packed ls ss j)
                rw [HXl.out] at h
                exact h
              rw [ht]
              clear ht
              go_wp2_with fail
              refine (awake_any _).mono ?_
              rintro e wy ⟨rfl, hb5⟩
              go_wp2
              go_ret
              exact ⟨rfl, hbk.trans (hb5.mono hbk.size)⟩
end Go.Proofs.Ytmkejjeniebllaa
