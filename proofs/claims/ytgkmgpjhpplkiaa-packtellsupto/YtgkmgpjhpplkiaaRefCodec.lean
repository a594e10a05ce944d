/-
  The contracts of the document's own answers for codec: garretref01's Put, Get, PutText, GetText: the same plain functions as the program's.
-/
import Derived.Test.YtgkmgpjhpplkiaaTexts
import Derived.OpenShut
namespace Go.Proofs.Ytgkmgpjhpplkiaa
open Go.RowKit
set_option linter.unusedVariables false

set_option maxHeartbeats 1000000 in
theorem refPut_any (w : World) (b : Value) (xs : List Int) (v n : Int) (h : Row w b xs) (hn : xs.length ≤ 140737488355000) (hv : 0 ≤ v) (hv2 : v < 18446744073709551616) :
    Calls Try.prog 27 #[b, .int .u64 v, .int .i64 n] w (MadeB w (xs ++ low v (held n))) := by
  obtain ⟨m, hm⟩ : ∃ m : Nat, m = held n := ⟨_, rfl⟩
  have hm8 : m ≤ 8 := hm ▸ held_le n
  have hmi : max 0 (min n 8) = (m : Int) := by rw [hm]; unfold held; omega
  rw [← hm]
  clear hm
  go_enter Try.func27, Try.ntmps27
  go_wp2_with (at_builtin; refine wpList_append_row rfl _ _ rfl w.heap.size _ _ [] xs rfl (Own.nil _ _) rfl h (by simp; omega) (Nat.le_refl _) ?_)
  intro v1 wb hob hgb
  have hbb : Below w.heap.size w wb := (Own.nil w.heap.size w).grown_below (Below.refl _ _) hgb (Nat.le_refl _) (Nat.le_refl _)
  go_wp2
  go_loopw [7, 8] (fun x i wr => ∃ k : Nat, k ≤ m ∧ i = .int .i64 k ∧ Own w.heap.size wr x (xs ++ low v k) ∧ Below w.heap.size w wr) (fun _ i _ => m - (intOf i).toNat)
  case atStart => exact ⟨0, Nat.zero_le _, rfl, by simpa [low] using hob, hbb⟩
  case round =>
    obtain ⟨k, hk, rfl, hok, hbk⟩ := hrel
    have hkl : (xs ++ low v k).length = xs.length + k := by rw [List.length_append, low_length]
    have HKL : Hid ((xs ++ low v k).length = xs.length + k) := hkl
    clear hkl
    by_cases hlt : k < m
    · have hlt' : (k : Int) < m := by omega
      go_wp2_with (at_builtin; refine wpList_append_row rfl _ _ rfl w.heap.size _ _ (xs ++ low v k) [v / 2 ^ (8 * k) % 256] rfl (hok.alloc _) rfl (row_new1 _ _ (byte_of v k)) (by rw [HKL.out]; simp; omega) (by have := hbk.size; simp; omega) ?_)
      intro v2 w2 ho2 hg2
      have hb1 : Below w.heap.size w (wr.alloc (.cells #[.int .u8 (v / 2 ^ (8 * k) % 256)] 5)) := hbk.alloc hbk.size _
      have R : Own w.heap.size w2 v2 (xs ++ low v (k + 1)) := by rw [low_succ, ← List.append_assoc]; simpa using ho2
      have G : Below w.heap.size w w2 := (hok.alloc _).grown_below hb1 hg2 (Nat.le_refl _) hb1.size
      clear ho2 hg2 hb1 hok
      go_wp2
      go_roundw
      case rel => exact ⟨k + 1, by omega, by go_num, R, G⟩
      case measure => simp [intOf]; omega
    · obtain rfl : k = m := by omega
      go_wp2
      go_ret
      exact ⟨_, rfl, hok, hbk⟩

set_option maxHeartbeats 1000000 in
theorem refPutText_any (w : World) (b : Value) (xs : List Int) (s : ByteArray) (h : Row w b xs) (hn : xs.length + s.size ≤ 140737488355000) :
    Calls Try.prog 28 #[b, .string s] w (MadeB w (xs ++ (low s.size 4 ++ bytesIn s))) := by
  obtain ⟨i0, hi, hz0, hz1, hz2⟩ := info_parts infoByte
  go_enter Try.func28, Try.ntmps28
  go_wp2_with fail
  refine (refPut_any w b xs s.size 4 h (by omega) (by omega) (by omega)).mono ?_
  rintro e w1 ⟨u, rfl, ho, hb⟩
  have hl : (xs ++ low (s.size : Int) (held 4)).length = xs.length + 4 := by rw [List.length_append, low_length]; rfl
  have HL : Hid ((xs ++ low (s.size : Int) (held 4)).length = xs.length + 4) := hl
  clear hl
  go_wp2_with (at_builtin; refine Lib.wpList_append_own_string _ rfl _ _ 23 9 rfl w.heap.size 5 i0 Try.underlying23 Try.underlying9 hi hz0 hz1 hz2 _ _ _ rfl ho.1 s rfl ?c1 ?c2 ?c3 ?_)
  case c1 => rw [HL.out]; unfold maxLen; omega
  case c2 => rw [HL.out]; omega
  case c3 => exact hb.size
  intro u2 w3 ho3 hg3 _
  go_wp2
  go_ret
  refine ⟨_, rfl, ⟨?_, h.bys.app ((low_bys _ _).app (bytesIn_bys s))⟩, ho.grown_below hb hg3 (Nat.le_refl _) hb.size⟩
  have e : xs ++ (low (s.size : Int) 4 ++ bytesIn s) = xs ++ low (s.size : Int) (held 4) ++ bytesIn s := by rw [List.append_assoc]; rfl
  rw [e, List.length_append, List.length_append, bytesIn_length, bv_append, bv_bytesIn]
  exact ho3

/-- One byte more, from the top. -/
theorem get_down {xs : List Int} {p k m : Nat} (hk : k < m) (hm : m ≤ 8) (hpm : p + m ≤ xs.length) (hb : Bys xs) :
    bits .or .u64 (IntKind.u64.wrap (num (((xs.drop p).take m).drop (k + 1)) * 256)) (IntKind.u64.wrap (xs[p + k]?.getD 0)) = num (((xs.drop p).take m).drop k) := by
  have hx : 0 ≤ xs[p + k]?.getD 0 ∧ xs[p + k]?.getD 0 < 256 := hb.at (p + k)
  have hlen : ((xs.drop p).take m).length = m := by simp; omega
  have hd : ((xs.drop p).take m).drop k = xs[p + k]?.getD 0 :: ((xs.drop p).take m).drop (k + 1) := by
    rw [List.drop_eq_getElem_cons (by rw [hlen]; exact hk)]
    congr 1
    simp [List.getElem?_eq_getElem (show p + k < xs.length by omega)]
  have hnr := num_range ((((hb.drop p).take m).drop (k + 1)))
  have hl2 : (((xs.drop p).take m).drop (k + 1)).length = m - (k + 1) := by rw [List.length_drop, hlen]
  rw [hl2] at hnr
  have hle : (2 : Int) ^ (8 * (m - (k + 1))) ≤ 2 ^ 56 := pow_mono (by omega)
  have h56 : (2 : Int) ^ 56 = 72057594037927936 := by decide
  rw [hd, num]
  generalize xs[p + k]?.getD 0 = x at *
  generalize num (((xs.drop p).take m).drop (k + 1)) = v at *
  rw [IntKind.wrap_u64, IntKind.wrap_u64, Int.emod_eq_of_lt (a := x) hx.1 (by omega), Int.emod_eq_of_lt (a := v * 256) (by omega) (by omega), u64_or _ _ (by omega) (by omega) hx.1 (by omega)]
  obtain ⟨V, rfl⟩ := Int.eq_ofNat_of_zero_le hnr.1
  obtain ⟨X, rfl⟩ := Int.eq_ofNat_of_zero_le hx.1
  rw [Int.toNat_natCast, show ((V : Int) * 256).toNat = V * 256 from by omega, nat_join 8 _ _ (by omega) (by omega)]
  omega

set_option maxHeartbeats 1000000 in
theorem refGet_any (w : World) (b : Value) (xs : List Int) (pos n : Int) (h : Row w b xs) (hp : (Lit.int .i64 pos).wf = true) (hn : (Lit.int .i64 n).wf = true) :
    Calls Try.prog 35 #[b, .int .i64 pos, .int .i64 n] w fun e w' => e = .returned (.tuple #[.int .u64 (getS xs pos n).1, .int .i64 (getS xs pos n).2]) ∧ w' = w := by
  have hlm := h.len
  unfold maxLen at hlm
  by_cases ha : pos < 0 ∨ n < 1 ∨ 8 < n
  · have hs : getS xs pos n = (0, 1) := by unfold getS; rw [if_pos ha]
    rw [hs]
    obtain ⟨ao, cap, rfl⟩ := h.of_len
    clear h hp hn hs
    rcases (show pos < 0 ∨ (¬ pos < 0 ∧ n < 1) ∨ (¬ pos < 0 ∧ ¬ n < 1 ∧ 8 < n) from by omega) with h1 | ⟨h1, h2⟩ | ⟨h1, h2, h3⟩
    all_goals
      clear ha
      go_enter Try.func35, Try.ntmps35
      go_wp2
      go_ret2
      exact ⟨rfl, rfl⟩
  · have h1 : 0 ≤ pos := by omega
    have h2 : 1 ≤ n := by omega
    have h3 : n ≤ 8 := by omega
    have hpb := bounds_i64 hp
    by_cases hl : (xs.length : Int) < pos + n
    · have hs : getS xs pos n = (0, 3) := by unfold getS; rw [if_neg ha, if_pos hl]
      rw [hs]
      obtain ⟨ao, cap, rfl⟩ := h.of_len
      clear h hp hn hs ha
      by_cases hl2 : (xs.length : Int) < pos
      · clear hl
        go_enter Try.func35, Try.ntmps35
        go_wp2
        go_ret2
        exact ⟨rfl, rfl⟩
      · have hl3 : (xs.length : Int) - pos < n := by omega
        clear hl
        go_enter Try.func35, Try.ntmps35
        go_wp2
        go_ret2
        exact ⟨rfl, rfl⟩
    · obtain ⟨p, rfl⟩ := Int.eq_ofNat_of_zero_le h1
      obtain ⟨m, rfl⟩ := Int.eq_ofNat_of_zero_le (show 0 ≤ n by omega)
      have hs : getS xs p m = (num ((xs.drop p).take m), 0) := by unfold getS; rw [if_neg ha, if_neg hl]; simp
      rw [hs]
      obtain ⟨bl, off, cap, rfl, hlc, hbl, hc⟩ := h.at (by intro e; subst e; simp at hl; omega)
      have hby := h.bys
      have hpm : p + m ≤ xs.length := by omega
      have hml : ((xs.drop p).take m).length = m := by simp; omega
      have HML : Hid (((xs.drop p).take m).length = m) := hml
      generalize hL : xs.length = len at *
      have hcap : (p : Int) + m ≤ len := by omega
      have hm1 : (1 : Int) ≤ m := by omega
      have hm8 : (m : Int) ≤ 8 := by omega
      have hq1 : (p : Int) ≤ len := by omega
      have hq2 : (m : Int) ≤ len - p := by omega
      clear h hp hn hs ha hml hl h2 h3
      go_enter Try.func35, Try.ntmps35
      go_wp2
      go_loop [8, 9] (fun a i => ∃ k : Nat, k ≤ m ∧ i = .int .i64 ((k : Int) - 1) ∧ a = .int .u64 (num (((xs.drop p).take m).drop k))) (fun _ i => (intOf i + 1).toNat)
      case atStart => exact ⟨m, Nat.le_refl _, rfl, by rw [List.drop_of_length_le (by rw [HML.out]; exact Nat.le_refl _)]; rfl⟩
      case round =>
        obtain ⟨k, hk, rfl, rfl⟩ := hrel
        by_cases hlt : 0 < k
        · obtain ⟨j, rfl⟩ : ∃ j, k = j + 1 := ⟨k - 1, by omega⟩
          have hck := hc (p + j) (by omega)
          go_wp2
          exact ⟨⟨j, by omega, rfl, congrArg (Value.int .u64) (get_down (by omega) (by omega) (by omega) hby)⟩, by simp [intOf]⟩
        · obtain rfl : k = 0 := by omega
          go_wp2
          go_ret2
          exact ⟨rfl, rfl⟩

set_option maxHeartbeats 1000000 in
theorem refGetText_any (w : World) (b : Value) (xs : List Int) (pos : Int) (h : Row w b xs) (hp : (Lit.int .i64 pos).wf = true) :
    Calls Try.prog 51 #[b, .int .i64 pos] w fun e w' => e = .returned (.tuple #[.string (strOfNums (textS xs pos).1), .int .i64 (textS xs pos).2.1, .int .i64 (textS xs pos).2.2]) ∧ w' = w := by
  have hlm := h.len
  unfold maxLen at hlm
  have hr := getS4_range h.bys pos
  have hg := refGet_any w b xs pos 4 h hp (by decide)
  by_cases he : (getS xs pos 4).2 = 0
  · have hok := getS_ok he
    obtain ⟨p, rfl⟩ := Int.eq_ofNat_of_zero_le hok.1
    obtain ⟨bl, off, cap, rfl, hlc, hbl, hc⟩ := h.at (by intro e; subst e; simp at hok; omega)
    rw [he] at hg
    by_cases hsh : (xs.length : Int) - p - 4 < (getS xs p 4).1
    · have hs : textS xs p = ([], 0, 3) := by unfold textS; rw [if_neg (by simp [he]), if_pos hsh]
      rw [hs]
      generalize (getS xs p 4).1 = v at *
      generalize hL : xs.length = len at *
      have hp4 : (p : Int) + 4 ≤ len := by omega
      have HG := (show Hid _ from hg)
      clear h hp hs he hc hg
      go_enter Try.func51, Try.ntmps51
      go_wp2_with fail
      refine Calls.mono HG.out ?_
      rintro e w1 ⟨rfl, rfl⟩
      clear HG
      go_wp2
      go_ret3
      exact ⟨rfl, rfl⟩
    · have hs : textS xs p = ((xs.drop (p + 4)).take (getS xs p 4).1.toNat, p + 4 + (getS xs p 4).1, 0) := by unfold textS; rw [if_neg (by simp [he]), if_neg hsh]; simp
      rw [hs]
      generalize (getS xs p 4).1 = v at *
      obtain ⟨n, rfl⟩ := Int.eq_ofNat_of_zero_le hr.1
      have hcv := run_convert_bytes_arg (P := Try.prog) w 23 5 Try.underlying23 Try.underlying5 bl (off + (p + 4)) n (cap - (p + 4)) ((xs.drop (p + 4)).take n) (by simp; omega)
        (fun i hi => by rw [Nat.add_assoc, hc (p + 4 + i) (by omega)]; simp [List.getD, hi]) 9 Try.underlying9
      have hcv0 := run_convert_bytes_arg (P := Try.prog) w 23 5 Try.underlying23 Try.underlying5 bl off 0 0 [] rfl (fun i hi => by omega) 9 Try.underlying9
      have HG := (show Hid _ from hg)
      clear h hp hs he hc hg
      by_cases hcap : cap = p + 4
      · subst hcap
        have hn0 : n = 0 := by omega
        subst hn0
        have hL : xs.length = p + 4 := by omega
        rw [hL] at HG hlm hlc hok hsh
        rw [hL]
        clear hcv
        go_enter Try.func51, Try.ntmps51
        go_wp2_with fail
        refine Calls.mono HG.out ?_
        rintro e w1 ⟨rfl, rfl⟩
        clear HG
        go_wp2
        go_ret3
        exact ⟨rfl, rfl⟩
      · generalize hL : xs.length = len at *
        have hp4 : (p : Int) + 4 ≤ len := by omega
        have hlc2 : (len : Int) ≤ cap := by omega
        have hq : (n : Int) ≤ len - p - 4 := by omega
        clear hcv0
        go_enter Try.func51, Try.ntmps51
        go_wp2_with fail
        refine Calls.mono HG.out ?_
        rintro e w1 ⟨rfl, rfl⟩
        clear HG
        go_wp2
        go_ret3
        exact ⟨by rw [Int.toNat_natCast]; rfl, rfl⟩
  · have hs : textS xs pos = ([], 0, (getS xs pos 4).2) := by unfold textS; rw [if_pos he]
    rw [hs]
    generalize (getS xs pos 4).1 = v at *
    generalize (getS xs pos 4).2 = er at *
    have HG := (show Hid _ from hg)
    have hne : (er != 0) = true := by simpa using he
    obtain ⟨ao, cap, rfl⟩ := h.of_len
    clear h hp hs he hg
    go_enter Try.func51, Try.ntmps51
    go_wp2_with fail
    refine Calls.mono HG.out ?_
    rintro e w1 ⟨rfl, rfl⟩
    clear HG
    go_wp2
    go_ret3
    exact ⟨rfl, rfl⟩
end Go.Proofs.Ytgkmgpjhpplkiaa
