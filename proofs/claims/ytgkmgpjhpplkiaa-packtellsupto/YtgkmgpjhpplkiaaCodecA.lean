/-
  The contracts of package codec's inner functions and of Put, PutInt: over the translation, each function by its number.
-/
import Derived.Test.YtgkmgpjhpplkiaaCore
import Derived.Lib.MinMax
namespace Go.Proofs.Ytgkmgpjhpplkiaa
open Go.RowKit
set_option linter.unusedVariables false



set_option maxHeartbeats 400000 in
/-- appendNumber on a row of the call's own that has room: the n lowest bytes stand behind. -/
theorem appendNumber_any (w : World) (base g n0 cap : Nat) (xs : List Value) (v : Int) (n : Nat) (hv : 0 ≤ v) (hv2 : v < 18446744073709551616) (hn : n ≤ 8)
   (hown : w.ownsRow base 5 1 (.slice (some ⟨g, 0, none⟩) n0 cap) n0 xs) (hfit : n0 + n ≤ cap) :
    Calls Try.prog 55 #[.slice (some ⟨g, 0, none⟩) n0 cap, .int .u64 v, .int .i64 n] w fun e w' =>
      e = .returned (.slice (some ⟨g, 0, none⟩) (n0 + n) cap) ∧ w'.ownsRow base 5 1 (.slice (some ⟨g, 0, none⟩) (n0 + n) cap) (n0 + n) (xs ++ bv (low v n)) ∧ w.grownBy w' (some g) := by
  obtain ⟨i0, hi, hz0, hz1, hz2⟩ := info_parts infoByte
  go_enter Try.func55, Try.ntmps55
  go_wp2
  go_loopw [0, 9] (fun s i wr => ∃ k : Nat, k ≤ n ∧ i = .int .i64 k ∧ s = .slice (some ⟨g, 0, none⟩) (n0 + k) cap ∧ wr.ownsRow base 5 1 (.slice (some ⟨g, 0, none⟩) (n0 + k) cap) (n0 + k) (xs ++ bv (low v k)) ∧ w.grownBy wr (some g))
    (fun _ i _ => n - (intOf i).toNat)
  case atStart => exact ⟨0, Nat.zero_le _, rfl, rfl, by simpa [low, bv] using hown, World.grownBy.refl _ _⟩
  case round =>
    obtain ⟨k, hk, rfl, rfl, hown1, hgr⟩ := hrel
    by_cases hlt : k < n
    · go_wp2_with (at_builtin; refine wpList_append_fits _ rfl _ _ 23 rfl base 5 i0 1 Try.underlying23 hi hz1 g (n0 + k) cap _ rfl (hown1.alloc _) ⟨wr.heap.size, 0, none⟩ 1 1 [.int .u8 (v / 2 ^ (8 * k) % 256)] rfl rfl (cell_one_new _ _ _) (by intro u hu; simp at hu; subst hu; rfl) (by omega) ?_)
      intro w1 hown2 hgr2
      have R : w1.ownsRow base 5 1 (.slice (some ⟨g, 0, none⟩) (n0 + (k + 1)) cap) (n0 + (k + 1)) (xs ++ bv (low v (k + 1))) := by rw [low_succ, bv_append]; exact hown2
      have G : w.grownBy w1 (some g) := grown_trans (grown_trans hgr (World.grownBy_alloc _ _ _)) hgr2
      clear hown2 hgr2 hown1 hgr
      go_wp2
      go_roundw
      case rel => exact ⟨k + 1, by omega, by go_num, rfl, R, G⟩
      case measure => simp [intOf]; omega
    · obtain rfl : k = n := by omega
      go_wp2
      go_ret
      exact ⟨rfl, hown1, hgr⟩

set_option maxHeartbeats 400000 in
/-- copyWithRoom: a new row with the bytes of b, and room for n more. -/
theorem copyWithRoom_any (w : World) (v : Value) (xs : List Int) (n : Nat) (h : Row w v xs) (hn : xs.length + n ≤ 140737488355328) :
    Calls Try.prog 56 #[v, .int .i64 n] w fun e w' =>
      e = .returned (.slice (some ⟨w.heap.size, 0, none⟩) xs.length (xs.length + n)) ∧ w'.ownsRow w.heap.size 5 1 (.slice (some ⟨w.heap.size, 0, none⟩) xs.length (xs.length + n)) xs.length (bv xs) ∧ Below w.heap.size w w' := by
  obtain ⟨i0, hi, hz0, hz1, hz2⟩ := info_parts infoByte
  obtain ⟨ao, cap, rfl, h1, h2, h3, h4, h5⟩ := h
  have hL : (bv xs).length = xs.length * 1 := by simp [bv_length]
  generalize hl : xs.length = len at *
  have hlen : (bv xs).length = len := by rw [bv_length]; exact hl
  go_enter Try.func56, Try.ntmps56
  go_wp2_with (at_make; refine wpList_make_own _ rfl _ _ 23 rfl w.heap.size 5 i0 (.int .u8 0) 1 Try.underlying23 hi hz0 hz1 _ _ _ (len + n) rfl rfl (by omega) ?b2 ?b3 (Nat.le_refl _) ?_)
  case b2 => rw [hz2]; omega
  case b3 => unfold maxLen; omega
  intro w0 hown0 hgrow0
  have hcell : ∀ ad, ao = some ad → ∀ j u, (bv xs)[j]? = some u → w0.cell? (ad.add j) = some u := fun ad had j u hu => hgrow0.cell (h4 ad had j u hu) (by simp)
  go_wp2_with (at_builtin; refine wpList_append_fits_any _ rfl _ _ 23 rfl w.heap.size 5 i0 1 Try.underlying23 hi hz1 w.heap.size 0 (len + n) _ rfl hown0 ao len cap (bv xs) rfl hL (fun e => ⟨by have := h3 e; omega, h3 e⟩) hcell (bv_one xs) (by omega) ?_)
  intro w1 hown1 hgrow1
  go_wp2
  go_ret
  exact ⟨rfl, hown1, ((Below.refl _ _).grown hgrow0 (Nat.le_refl _) (fun k e => by cases e)).grown hgrow1 hgrow0.size (fun k e => by cases e; exact Nat.le_refl _)⟩

/-- How many bytes Put puts. -/
def held (n : Int) : Nat := (min (max n 0) 8).toNat
theorem held_le (n : Int) : held n ≤ 8 := by unfold held; omega
theorem held_of {n : Int} (h : 0 ≤ n) (k : n ≤ 8) : held n = n.toNat := by unfold held; omega

/-- What a call hands back that makes bytes: a row of its own, nothing old turned. -/
def MadeB (w : World) (xs : List Int) (e : Ending) (w' : World) : Prop := ∃ u, e = .returned u ∧ Own w.heap.size w' u xs ∧ Below w.heap.size w w'

set_option maxHeartbeats 400000 in
theorem Put_any (w : World) (b : Value) (xs : List Int) (v n : Int) (h : Row w b xs) (hn : xs.length ≤ 140737488355320) (hv : 0 ≤ v) (hv2 : v < 18446744073709551616) :
    Calls Try.prog 52 #[b, .int .u64 v, .int .i64 n] w (MadeB w (xs ++ low v (held n))) := by
  have hb := h.bys
  obtain ⟨m, hm⟩ : ∃ m : Nat, m = held n := ⟨_, rfl⟩
  have hm8 : m ≤ 8 := hm ▸ held_le n
  have hmi : Hid (min (max n 0) 8 = (m : Int)) := by unfold Hid; rw [hm]; unfold held; omega
  rw [← hm]
  go_enter Try.func52, Try.ntmps52
  clear hm
  go_wp2_with fail
  rw [hmi.out]
  refine (copyWithRoom_any w b xs m h (by omega)).mono ?_
  rintro e w1 ⟨rfl, ho1, hb1⟩
  go_wp2_with fail
  refine (appendNumber_any w1 w.heap.size _ _ _ _ v m hv hv2 hm8 ho1 (by omega)).mono ?_
  rintro e w2 ⟨rfl, ho2, hg2⟩
  go_wp2
  go_ret
  refine ⟨_, rfl, ⟨?_, hb.app (low_bys v m)⟩, hb1.grown hg2 hb1.size (fun k e => by cases e; exact Nat.le_refl _)⟩
  rw [List.length_append, low_length, bv_append]
  exact ho2

set_option maxHeartbeats 400000 in
theorem PutInt_any (w : World) (b : Value) (xs : List Int) (i : Int) (h : Row w b xs) (hn : xs.length ≤ 140737488355320) (hi : (Lit.int .i64 i).wf = true) :
    Calls Try.prog 38 #[b, .int .i64 i] w (MadeB w (xs ++ low (i % 18446744073709551616) 8)) := by
  go_enter Try.func38, Try.ntmps38
  go_wp2_with fail
  refine (Put_any w b xs (i % 18446744073709551616) 8 h hn (Int.emod_nonneg _ (by omega)) (Int.emod_lt_of_pos _ (by omega))).mono ?_
  rintro e w1 ⟨u, rfl, ho, hb⟩
  go_wp2
  go_ret
  exact ⟨u, rfl, ho, hb⟩

set_option maxHeartbeats 400000 in
theorem PutText_any (w : World) (b : Value) (xs : List Int) (s : ByteArray) (h : Row w b xs) (hn : xs.length + s.size ≤ 140737488355320) :
    Calls Try.prog 53 #[b, .string s] w (MadeB w (xs ++ (low s.size 4 ++ bytesIn s))) := by
  obtain ⟨i0, hi, hz0, hz1, hz2⟩ := info_parts infoByte
  have hb := h.bys
  go_enter Try.func53, Try.ntmps53
  go_wp2_with fail
  rw [show (4 + (s.size : Int)) = ((4 + s.size : Nat) : Int) from by omega]
  refine (copyWithRoom_any w b xs (4 + s.size) h (by omega)).mono ?_
  rintro e w1 ⟨rfl, ho1, hb1⟩
  go_wp2_with fail
  refine (appendNumber_any w1 w.heap.size _ _ _ _ s.size 4 (by omega) (by omega) (by omega) ho1 (by omega)).mono ?_
  rintro e w2 ⟨rfl, ho2, hg2⟩
  go_wp2_with (at_builtin; refine Lib.wpList_append_own_string _ rfl _ _ 23 9 rfl w.heap.size 5 i0 Try.underlying23 Try.underlying9 hi hz0 hz1 hz2 _ _ _ rfl ho2 s rfl ?c1 ?c2 ?c3 ?_)
  case c1 => unfold maxLen; omega
  case c2 => omega
  case c3 => have := hb1.size; have := hg2.size; omega
  intro u w3 ho3 hg3 _
  go_wp2
  go_ret
  refine ⟨_, rfl, ⟨?_, hb.app ((low_bys _ _).app (bytesIn_bys s))⟩, (hb1.grown hg2 hb1.size (fun k e => by cases e; exact Nat.le_refl _)).grown hg3 (Nat.le_trans hb1.size hg2.size) (fun k e => by cases e; exact Nat.le_refl _)⟩
  rw [List.length_append, List.length_append, low_length, bytesIn_length, bv_append, bv_append, bv_bytesIn, ← Nat.add_assoc]
  exact ho3
end Go.Proofs.Ytgkmgpjhpplkiaa
