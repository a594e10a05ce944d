/-
  The document's own chip (garretref01): it makes of its bytes what the program's makes of its own.
-/
import Derived.Test.YtgkgbbffgcmekaaNorK
namespace Go.Proofs.Ytgkgbbffgcmekaa
open Go.RowKit
set_option linter.unusedVariables false
set_option maxRecDepth 100000

theorem RPowN.cells {base c : Nat} {w : World} {S : PSt} (h : RPowN base w c S) : w.cell? ⟨c, 0, none⟩ = some (.bool S.off) ∧ w.cell? ⟨c, 2, none⟩ = some (.int .u8 S.mask) ∧ w.cell? ⟨c, 3, none⟩ = some (.int .i64 S.steps) := by
  obtain ⟨h, _⟩ := h
  exact ⟨(h.cell 0).trans rfl, (h.cell 2).trans rfl, (h.cell 3).trans rfl⟩

theorem RRight_any (w : World) (a b c d e : Int) (ha : (Lit.int .i64 a).wf = true) : Calls Try.prog 34 #[.agg (gcells a b c d e)] w fun x w' => x = .returned (.bool (rightS a b c d e)) ∧ w' = w.alloc (.cells (gcells a b c d e) 23) := by
  have ha' := of_wf_i64 ha
  have hm : (a.tmod 2 == 0) = decide (a % 2 = 0) := by
    by_cases h : a % 2 = 0
    · have : a.tmod 2 = 0 := by have := Int.tmod_eq_zero_of_dvd (Int.dvd_of_emod_eq_zero h); exact this
      simp [h, this]
    · have : ¬ a.tmod 2 = 0 := fun e => h (Int.emod_eq_zero_of_dvd (Int.dvd_of_tmod_eq_zero e))
      simp [h, this]
  unfold gcells
  go_enter Try.func34, Try.ntmps34
  go_wp2
  all_goals go_ret
  all_goals exact ⟨ret_one (congrArg Value.bool (by rw [Bool.eq_iff_iff]; simp [rightS]; omega)), rfl⟩

theorem rwithin_any (base : Nat) (w : World) (L : Lay) (N : NSt) (n : Nat) (h : Chip 74 base w L N) (ok : N.Ok n) (p k : Int) (hp : (Lit.int .i64 p).wf = true) (hk : (Lit.int .i64 k).wf = true) :
    Calls Try.prog 58 #[.pointer (some ⟨L.c, 0, none⟩), .int .i64 p, .int .i64 k] w fun e w' => e = .returned (.bool (hasS N.bs.length p k)) ∧ w' = w := by
  have hbig := ok.big
  have hlen := ok.len
  have hp' := of_wf_i64 hp
  have hk' := of_wf_i64 hk
  have c6 := h.blk.cell 6
  simp [ccells] at c6
  rw [hlen]
  clear hp hk ok h hlen
  generalize N.A * N.B = len at *
  unfold hasS
  by_cases h1 : 0 ≤ p
  · by_cases h2 : 0 ≤ k
    · by_cases h3 : p ≤ len
      · go_enter Try.func58, Try.ntmps58
        go_wp2
        go_ret
        exact ⟨ret_one (congrArg Value.bool (by rw [Bool.eq_iff_iff]; simp; omega)), rfl⟩
      · go_enter Try.func58, Try.ntmps58
        go_wp2
        go_ret
        exact ⟨ret_one (congrArg Value.bool (by rw [Bool.eq_iff_iff]; simp; omega)), rfl⟩
    · go_enter Try.func58, Try.ntmps58
      go_wp2
      go_ret
      exact ⟨ret_one (congrArg Value.bool (by rw [Bool.eq_iff_iff]; simp; omega)), rfl⟩
  · go_enter Try.func58, Try.ntmps58
    go_wp2
    go_ret
    exact ⟨ret_one (congrArg Value.bool (by rw [Bool.eq_iff_iff]; simp; omega)), rfl⟩

theorem RRead_any (base : Nat) (w : World) (L : Lay) (N : NSt) (n : Nat) (h : Chip 74 base w L N) (ok : N.Ok n) (p k : Int) (hp : (Lit.int .i64 p).wf = true) (hk : (Lit.int .i64 k).wf = true) :
    Calls Try.prog 41 #[.pointer (some ⟨L.c, 0, none⟩), .int .i64 p, .int .i64 k] w fun e w' =>
      ∃ v, e = .returned (.tuple #[v, .int .i64 (readS N.bs p k).1]) ∧ Own w.heap.size w' v (readS N.bs p k).2 ∧ Below w.heap.size w w' := by
  have hbig := ok.big
  have hh := rwithin_any base w L N n h ok p k hp hk
  have hlen := ok.len
  have c6 := h.blk.cell 6
  simp [ccells] at c6
  by_cases ht : hasS N.bs.length p k = true
  · have hr : readS N.bs p k = (0, (N.bs.drop p.toNat).take k.toNat) := by simp [readS, ht]
    rw [hr]
    rw [ht] at hh
    have hu := ht
    unfold hasS at hu
    simp at hu
    obtain ⟨P, rfl⟩ := Int.eq_ofNat_of_zero_le hu.2.1
    obtain ⟨K, rfl⟩ := Int.eq_ofNat_of_zero_le hu.1
    have hle : P + K ≤ N.A * N.B := by omega
    have hrow := h.row ok hle
    have hxl : ((N.bs.drop P).take K).length ≤ 65536 := by simp; omega
    by_cases hP : P = N.A * N.B
    · obtain rfl : K = 0 := by omega
      have hrow0 : Row w (.slice (some ⟨L.bb, 0, none⟩) 0 0) [] := Row.mk (xs := []) (Nat.le_refl _) (Nat.zero_le _) (fun i hi => by simp at hi) Bys.nil
      rw [show (N.bs.drop ((P : Int)).toNat).take ((0 : Nat) : Int).toNat = [] from by simp]
      clear hp hk ok h hlen hu ht hrow hr hxl
      subst hP
      generalize N.A * N.B = len at *
      go_enter Try.func41, Try.ntmps41
      go_wp2_with fail
      refine hh.mono ?_
      rintro e w1 ⟨rfl, rfl⟩
      go_wp2_with (at_builtin; refine wpList_append_row rfl _ _ rfl w1.heap.size _ _ [] [] rfl (Own.nil _ _) rfl hrow0 (by simp) (Nat.le_refl _) ?_)
      intro v' w' hown hg
      have hB : Below w1.heap.size w1 w' := (Below.refl _ _).grown hg (Nat.le_refl _) (fun k e => by cases e)
      obtain ⟨ao, c2, rfl⟩ := hown.row.of_len
      go_wp2
      go_ret2
      exact ⟨_, rfl, hown, hB⟩
    · rw [show (N.bs.drop ((P : Int)).toNat).take (K : Int).toNat = (N.bs.drop P).take K from by simp]
      clear hp hk ok h hlen hu ht hr
      generalize (N.bs.drop P).take K = ys at *
      generalize N.A * N.B = len at *
      have hrow2 : Row w (.slice (some ⟨L.bb, P, none⟩) (P + K - P) (len - P)) ys := by rw [Nat.add_sub_cancel_left]; exact hrow
      go_enter Try.func41, Try.ntmps41
      go_wp2_with fail
      refine hh.mono ?_
      rintro e w1 ⟨rfl, rfl⟩
      go_wp2_with (at_builtin; refine wpList_append_row rfl _ _ rfl w1.heap.size _ _ [] ys rfl (Own.nil _ _) rfl hrow2 (by rw [List.length_nil]; omega) (Nat.le_refl _) ?_)
      intro v' w' hown hg
      have hB : Below w1.heap.size w1 w' := (Below.refl _ _).grown hg (Nat.le_refl _) (fun k e => by cases e)
      try rw [List.nil_append] at hown
      obtain ⟨ao, c2, rfl⟩ := hown.row.of_len
      go_wp2
      go_ret2
      exact ⟨_, rfl, hown, hB⟩
  · have hf : hasS N.bs.length p k = false := by simpa using ht
    have hr : readS N.bs p k = (1, []) := by simp [readS, hf]
    rw [hr]
    rw [hf] at hh
    clear hp hk ok h hlen ht hf hr
    go_enter Try.func41, Try.ntmps41
    go_wp2_with fail
    refine hh.mono ?_
    rintro e w1 ⟨rfl, rfl⟩
    go_wp2
    go_ret2
    exact ⟨_, rfl, Own.nil _ _, Below.refl _ _⟩

theorem blank_any (w : World) (n : Nat) (hn : n ≤ 65536) : Calls Try.prog 35 #[.int .i64 n] w fun e w' =>
    e = .returned (.slice (some ⟨w.heap.size, 0, none⟩) n n) ∧ Blk w' w.heap.size (bv (List.replicate n 255)).toArray 5 ∧ Below w.heap.size w w' ∧ w'.heap.size = w.heap.size + 1 := by
  have m1 := run_make_bytes w n hn
  have hfl := fill_new n
  go_enter Try.func35, Try.ntmps35
  go_wp2_with fail
  go_loopw [4] (fun i wr => ∃ k : Nat, k ≤ n ∧ i = .int .i64 k ∧ Blk wr w.heap.size (bv (fill (List.replicate n 0) 0 255 k)).toArray 5 ∧ Below w.heap.size w wr ∧ wr.heap.size = w.heap.size + 1) (fun i _ => n - (intOf i).toNat)
  case atStart => exact ⟨0, Nat.zero_le _, rfl, Blk.new w _ _, (Below.refl _ _).alloc (Nat.le_refl _) _, by simp⟩
  case round =>
    obtain ⟨k, hk, rfl, hB, hg, hs⟩ := hrel
    by_cases hlt : k < n
    · have hc := hB.byteAt (j := k) (by rw [fill_length]; simp; omega)
      have hf := hB.frozen k
      have hx := (fill_bys (bs := List.replicate n 0) (by intro x hx; simp at hx; omega) 0 255 k).at k
      have R := hB.setB k 255
      have HR : Hid (Blk (wr.setCell ⟨w.heap.size, k, none⟩ (.int .u8 255)) w.heap.size (bv (fill (List.replicate n 0) 0 255 (k + 1))).toArray 5) := by
        unfold Hid
        have e : fill (List.replicate n 0) 0 255 (k + 1) = (fill (List.replicate n 0) 0 255 k).set k 255 := by
          simp only [fill, Nat.zero_add]
          rw [or_255 hx]
        rw [e]; exact R
      have G : Below w.heap.size w (wr.setCell ⟨w.heap.size, k, none⟩ (.int .u8 255)) := hg.setCell (Nat.le_refl _) _
      generalize (fill (List.replicate n 0) 0 255 k).getD k 0 = x at *
      have hs2 : (wr.setCell ⟨w.heap.size, k, none⟩ (.int .u8 255)).heap.size = w.heap.size + 1 := by simpa using hs
      have HS2 := hide hs2
      have HS := hide hs
      clear R hB hfl hs hs2 hx
      go_wp2
      exact ⟨⟨k + 1, by omega, by go_num, HR.out, G, HS2.out⟩, by simp [intOf]; omega⟩
    · obtain rfl : k = n := by omega
      rw [hfl] at hB
      have HS := hide hs
      have HB := hide hB
      clear hs hB hfl m1
      go_wp2
      go_ret
      exact ⟨rfl, HB.out, hg, HS.out⟩

end Go.Proofs.Ytgkgbbffgcmekaa
