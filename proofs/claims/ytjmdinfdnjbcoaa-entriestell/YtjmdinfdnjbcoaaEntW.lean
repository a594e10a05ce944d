/-
  Entries: garrethelp's Own and Kept.
-/
import Derived.Test.YtjmdinfdnjbcoaaEntK
import Derived.Test.YtjmdinfdnjbcoaaEntB
import Derived.Test.YtjmdinfdnjbcoaaEntU
import Derived.OpenShut
import Derived.Deep.Cut
namespace Go.Proofs.Ytjmdinfdnjbcoaa
open Go.RowKit
set_option linter.unusedVariables false
set_option linter.unusedSimpArgs false
set_option maxRecDepth 100000

theorem take_set2 (L : List Value) (o : Nat) (a b : Value) (h : o + 1 < L.length) : ((L.set o a).set (o + 1) b).take (o + 2) = L.take o ++ [a, b] := by
  apply List.ext_getElem?
  intro j
  simp only [List.getElem?_take, List.getElem?_set, List.getElem?_append, List.length_take, List.length_set]
  rw [Nat.min_eq_left (by omega)]
  by_cases h1 : j < o
  · rw [if_pos (by omega), if_neg (by omega), if_neg (by omega), if_pos h1, if_pos h1]
  · by_cases h2 : j = o
    · subst h2
      simp [show j < L.length by omega]
    · by_cases h3 : j = o + 1
      · subst h3
        rw [if_pos (by omega), if_pos rfl, if_pos (by omega), if_neg (by omega), show o + 1 - o = 1 by omega]
        rfl
      · rw [if_neg (by omega), if_neg (by omega)]
        rw [List.getElem?_eq_none (by simp; omega)]
def rep (l : List En) (f : En) (k : Nat) : List En := l ++ List.replicate k f
theorem rep_zero (l : List En) (f : En) : rep l f 0 = l := by simp [rep]
theorem flatE_rep (l : List En) (f : En) (k : Nat) : flatE (rep l f (k + 1)) = flatE (rep l f k) ++ f.cells := by
  unfold rep
  rw [List.replicate_succ', ← List.append_assoc, flatE_append]
  congr 1
/-- The block holds l, and fillings behind it. -/
def Full (w : World) (g : Nat) (l : List En) (f : En) : Prop := ∃ cur : Array Value, Blk w g cur 24 ∧ cur.size = (l.length + 3) * 2 ∧ cur.toList = flatE (rep l f 3)
theorem Full.below {w w' : World} {g : Nat} {l : List En} {f : En} (h : Full w g l f) (hb : Below w.heap.size w w') : Full w' g l f := by
  obtain ⟨cur, h1, h2⟩ := h
  exact ⟨cur, kl_blk hb h1, h2⟩
theorem Full.row {w : World} {g : Nat} {l : List En} {f : En} (h : Full w g l f) (hl : l.length ≤ 1000000) (hw : ∀ r ∈ l, r.Wf) : ERow w (.slice (some ⟨g, 0, none⟩) l.length (l.length + 3)) l := by
  obtain ⟨cur, h1, h2, h3⟩ := h
  refine erow_blk h1 rfl (by omega) (by unfold maxLen; omega) ?_ hw
  rw [h3, rep, flatE_append, List.take_append_of_le_length (by rw [flatE_length]; omega), List.take_of_length_le (by rw [flatE_length]; omega)]

theorem eidxRun (g n c i : Nat) (hi : i < n) (w' : World) : (Instr.indexAt 22 (.slice (some ⟨g, 0, none⟩) n c) (.int .i64 (i : Int))).run Try.prog w' = .ok (.pointer (some ⟨g, i * 2, none⟩)) w' := by
  rw [run_indexAt_slice _ _ _ _ _ _ _ entsTy]
  simp [sizeEn, Result.andThen, hi, Addr.add_lit]

set_option maxHeartbeats 4000000 in
theorem OwnE_any (w : World) (v : Value) (l : List En) (s : ByteArray) (n : Int) (h : ERow w v l) (hn : l.length ≤ 1000000) :
    Calls Try.prog 8 #[v, .agg #[.string s, .int .i64 n]] w fun e w' => ∃ g, w.heap.size ≤ g ∧ e = .returned (.slice (some ⟨g, 0, none⟩) l.length (l.length + 3)) ∧ Full w' g l ⟨s, n⟩ ∧ Below w.heap.size w w' := by
  obtain ⟨i0, hi, hz0, hz1, hz2⟩ := info_parts infoEn
  obtain ⟨w0, hw0⟩ : ∃ W, W = w.alloc (.cells #[.string s, .int .i64 n] 24) := ⟨_, rfl⟩
  have hb0 : Below w.heap.size w w0 := by rw [hw0]; exact kl_alloc w _
  have hbl : Blk w0 w.heap.size #[.string s, .int .i64 n] 24 := by rw [hw0]; exact Blk.new w _ _
  have HS0 := hide (show w0.heap.size = w.heap.size + 1 by rw [hw0]; simp)
  have h0 := h.below hb0
  have HWF := hide h.2
  obtain ⟨⟨ao, cap, rfl, h1, h2, h3, h4⟩, _⟩ := h0
  have hL : (flatE l).length = l.length * 2 := flatE_length l
  have HE1 := hide (flatE_one l)
  have hcl : ∀ ad, ao = some ad → ∀ j u, (flatE l)[j]? = some u → w0.cell? (ad.add j) = some u := fun ad ha j u hu => by
    obtain ⟨i, c, r, rfl, _, hr, hc⟩ := flatE_get hu
    exact h4 ad ha i r hr c u hc
  have HFR : Hid (∀ k, flatE (rep l ⟨s, n⟩ (k + 1)) = flatE (rep l ⟨s, n⟩ k) ++ [.string s, .int .i64 n]) := fun k => flatE_rep l ⟨s, n⟩ k
  have HR0 : Hid (flatE (rep l ⟨s, n⟩ 0) = flatE l) := by rw [rep_zero]; exact hide rfl
  obtain ⟨XS, hXS⟩ : ∃ X, X = flatE l := ⟨_, rfl⟩
  rw [← hXS] at hL hcl HR0
  rw [← hXS] at HE1
  have HLen : Hid (∀ cur : Array Value, cur.toList = flatE (rep l ⟨s, n⟩ 3) → True) := fun _ _ => trivial
  obtain ⟨len, hl⟩ : ∃ n, l.length = n := ⟨_, rfl⟩
  have HL := hide hl
  simp only [hl] at hL h1 hn ⊢
  clear hl h4 hXS HLen h
  go_enter Try.func8, Try.ntmps8
  go_upto_region 1 with fail
  rw [← hw0]
  clear hw0
  go_wp2_with (at_make; refine wpList_make_own _ rfl _ _ 22 rfl w0.heap.size 24 i0 (.agg #[.string ByteArray.empty, .int .i64 0]) 2 Try.underlying22 hi hz0 hz1 _ _ _ (len + 3) rfl rfl (by omega) ?b2 ?b3 (Nat.le_refl _) ?_)
  case b2 => rw [hz2]; omega
  case b3 => unfold maxLen; omega
  intro w1 hown1 hgrow1
  have hcell : ∀ ad, ao = some ad → ∀ j u, XS[j]? = some u → w1.cell? (ad.add j) = some u := fun ad had j u hu => hgrow1.cell (hcl ad had j u hu) (by simp)
  go_wp2_with (at_builtin; refine wpList_append_fits_any _ rfl _ _ 22 rfl w0.heap.size 24 i0 2 Try.underlying22 hi hz1 w0.heap.size 0 (len + 3) _ rfl hown1 ao len cap XS rfl hL (fun e => ⟨by have := h3 e; omega, h3 e⟩) hcell HE1.out (by omega) ?_)
  intro w2 hown2 hgrow2
  have hb1 : Below w0.heap.size w0 w1 := (Below.refl _ _).grown hgrow1 (Nat.le_refl _) (fun k e => by cases e)
  have hb2 : Below w0.heap.size w0 w2 := hb1.grown hgrow2 hb1.size (fun k e => by cases e; exact Nat.le_refl _)
  have hB2 := kl_step hb2 hb0
  have hbl2 : Blk w2 w.heap.size #[.string s, .int .i64 n] 24 := hbl.below hb2 (by have := HS0.out; omega)
  have hst : ∃ cur : Array Value, Blk w2 w0.heap.size cur 24 ∧ cur.size = (len + 3) * 2 ∧ cur.toList.take ((len + 0) * 2) = flatE (rep l ⟨s, n⟩ 0) := by
    rcases hown2.2 with ⟨hv, _⟩ | ⟨g', cap', cur, hv, hbg, hg, hnc, hcm, hcs, htake⟩
    · cases hv
    · simp only [Value.slice.injEq, Option.some.injEq, Addr.mk.injEq, and_true] at hv
      obtain ⟨hv1, hv2, hv3⟩ := hv
      rw [← hv1] at hg
      refine ⟨cur, hg, by rw [hcs, ← hv3], ?_⟩
      rw [HR0.out, Nat.add_zero]
      simpa using htake
  have HST := hide hst
  have hs0 := HS0.out
  generalize hgg : w0.heap.size = g at *
  have hgw : w.heap.size < g := by omega
  have hgw2 : g ≠ w.heap.size := by omega
  -- the full row, and its length
  obtain ⟨S, hS⟩ : ∃ S : Value, S = .slice (some ⟨g, 0, none⟩) (len + 3) (len + 3) := ⟨_, rfl⟩
  have q1 : ∀ w', (Instr.sliceAt 22 (.slice (some ⟨g, 0, none⟩) len (len + 3)) none (some (.int .i64 ((len : Int) + 3))) none).run Try.prog w' = .ok S w' := fun w' => by
    rw [hS, show ((len : Int) + 3) = ((len + 3 : Nat) : Int) by omega, ecut_upto _ _ _ _ (by omega), sliced_zero]
  have q2 : ∀ w' ty, (Builtin.len_ #[22] ty #[S]).run Try.prog w' = .ok (.int .i64 ((len : Int) + 3)) w' := fun w' ty => by
    rw [hS, elenRun]; rfl
  have q3 : Hid (∀ k : Nat, k < 3 → ∀ w', (Instr.indexAt 22 S (.int .i64 ((len : Int) + (k : Int)))).run Try.prog w' = .ok (.pointer (some ⟨g, (len + k) * 2, none⟩)) w') := fun k hk w' => by
    rw [hS, show ((len : Int) + (k : Int)) = ((len + k : Nat) : Int) by omega, eidxRun _ _ _ _ (by omega)]
  clear hown1 hown2 hgrow1 hgrow2 hcell hcl hb1 hb2 hbl hst hs0 HS0 hgg hL h1 h2 h3 HE1 HR0 hS
  go_wp2_with fail
  go_loopw [7] (fun i wr => ∃ k : Nat, k ≤ 3 ∧ i = .int .i64 ((len : Int) + (k : Int)) ∧ Hid (∃ cur : Array Value, Blk wr g cur 24 ∧ cur.size = (len + 3) * 2 ∧ cur.toList.take ((len + k) * 2) = flatE (rep l ⟨s, n⟩ k)) ∧ Hid (Blk wr w.heap.size #[.string s, .int .i64 n] 24) ∧ Hid (Below w.heap.size w wr)) (fun i _ => len + 3 - (intOf i).toNat)
  case atStart => exact ⟨0, Nat.zero_le _, by simp, HST, hide hbl2, hide hB2⟩
  case round =>
    obtain ⟨k, hk, rfl, HCU, HBX, HBK⟩ := hrel
    by_cases hlt : k < 3
    · obtain ⟨cur, hB, hcs, hct⟩ := HCU.out
      have hix := q3.out k hlt
      have hk' : (k : Int) < 3 := by omega
      have b0 : wr.cell? ⟨w.heap.size, 0, none⟩ = some (.string s) := HBX.out.cell 0
      have b1 : wr.cell? ⟨w.heap.size, 1, none⟩ = some (.int .i64 n) := HBX.out.cell 1
      obtain ⟨O, hO⟩ : ∃ O, O = (len + k) * 2 := ⟨_, rfl⟩
      rw [← hO] at hix hct
      have d0 : wr.cell? ⟨g, O, none⟩ = some (cur[O]'(by omega)) := by rw [hB.cell, Array.getElem?_eq_getElem]
      have d1 : wr.cell? ⟨g, O + 1, none⟩ = some (cur[O + 1]'(by omega)) := by rw [hB.cell, Array.getElem?_eq_getElem]
      generalize cur[O]'(by omega) = y0 at d0
      generalize cur[O + 1]'(by omega) = y1 at d1
      have f0 := hB.frozen O
      have f1 := hB.frozen (O + 1)
      have HNC : Hid (∃ cur' : Array Value, Blk ((wr.setCell ⟨g, O, none⟩ (.string s)).setCell ⟨g, O + 1, none⟩ (.int .i64 n)) g cur' 24 ∧ cur'.size = (len + 3) * 2 ∧ cur'.toList.take ((len + (k + 1)) * 2) = flatE (rep l ⟨s, n⟩ (k + 1))) := by
        refine hide ⟨_, (hB.set O (.string s)).set (O + 1) (.int .i64 n), by simp [hcs], ?_⟩
        rw [HFR.out, ← hct, Array.toList_setIfInBounds, Array.toList_setIfInBounds, show (len + (k + 1)) * 2 = O + 2 by omega]
        exact take_set2 _ _ _ _ (by rw [Array.length_toList]; omega)
      have HNB : Hid (Blk ((wr.setCell ⟨g, O, none⟩ (.string s)).setCell ⟨g, O + 1, none⟩ (.int .i64 n)) w.heap.size #[.string s, .int .i64 n] 24) :=
        hide ((HBX.out.kept (grown_setCell wr g O _) (by simp; omega)).kept (grown_setCell _ g (O + 1) _) (by simp; omega))
      have HND : Hid (Below w.heap.size w ((wr.setCell ⟨g, O, none⟩ (.string s)).setCell ⟨g, O + 1, none⟩ (.int .i64 n))) :=
        hide ((HBK.out.setCell (p := ⟨g, O, none⟩) (by show w.heap.size ≤ g; omega) _).setCell (p := ⟨g, O + 1, none⟩) (by show w.heap.size ≤ g; omega) _)
      clear hB hcs hct hO
      go_wp2
      exact ⟨⟨k + 1, by omega, by go_num, HNC, HNB, HND⟩, by simp [intOf]; omega⟩
    · obtain rfl : k = 3 := by omega
      go_wp2
      go_ret
      refine ⟨g, by omega, rfl, ?_, HBK.out⟩
      obtain ⟨cur, h1, h2, h3⟩ := HCU.out
      refine ⟨cur, h1, by rw [HL.out]; exact h2, ?_⟩
      rw [← h3, List.take_of_length_le (by rw [Array.length_toList]; omega)]

set_option maxHeartbeats 4000000 in
theorem KeptE_any (w : World) (g : Nat) (b : Value) (l : List En) (s : ByteArray) (n : Int) (hf : Full w g l ⟨s, n⟩) (hb : ERow w b l) (hn : l.length ≤ 1000000) :
    Calls Try.prog 18 #[.slice (some ⟨g, 0, none⟩) l.length (l.length + 3), b, .agg #[.string s, .int .i64 n]] w fun e w' => e = .returned (.bool true) ∧ Below w.heap.size w w' := by
  obtain ⟨w0, hw0⟩ : ∃ W, W = w.alloc (.cells #[.string s, .int .i64 n] 24) := ⟨_, rfl⟩
  have hb0 : Below w.heap.size w w0 := by rw [hw0]; exact kl_alloc w _
  have hbl : Blk w0 w.heap.size #[.string s, .int .i64 n] 24 := by rw [hw0]; exact Blk.new w _ _
  have hf0 := hf.below hb0
  have hpl := PlainE_any w0 (.slice (some ⟨g, 0, none⟩) l.length (l.length + 3)) b l l (hf0.row hn hb.2) (hb.below hb0)
  rw [decide_eq_true rfl] at hpl
  have hlb := hb.lenRun
  have hce : Hid (∀ k, k < 3 → w0.cell? ⟨g, (l.length + k) * 2, none⟩ = some (.string s) ∧ w0.cell? ⟨g, (l.length + k) * 2 + 1, none⟩ = some (.int .i64 n)) := by
    intro k hk
    obtain ⟨cur, h1, h2, h3⟩ := hf0
    have hg : (rep l ⟨s, n⟩ 3)[l.length + k]? = some (⟨s, n⟩ : En) := by
      unfold rep
      rw [List.getElem?_append_right (by omega), Nat.add_sub_cancel_left, List.getElem?_replicate, if_pos hk]
    refine ⟨?_, ?_⟩
    · rw [h1.cell, ← Array.getElem?_toList, h3]
      exact flatE_at hg 0 (by omega)
    · rw [h1.cell, ← Array.getElem?_toList, h3]
      exact flatE_at hg 1 (by omega)
  have c0 : w0.cell? ⟨w.heap.size, 0, none⟩ = some (.string s) := hbl.cell 0
  have c1 : w0.cell? ⟨w.heap.size, 1, none⟩ = some (.int .i64 n) := hbl.cell 1
  have HC0 := hide c0
  have HC1 := hide c1
  have HB0 := hide hb0
  clear hf hf0 hb hb0 hbl c0 c1
  generalize l.length = len at *
  obtain ⟨S, hS⟩ : ∃ S : Value, S = .slice (some ⟨g, 0, none⟩) (len + 3) (len + 3) := ⟨_, rfl⟩
  obtain ⟨O, hO⟩ : ∃ S : Value, S = .slice (some ⟨g, 0, none⟩) len (len + 3) := ⟨_, rfl⟩
  have q1 : ∀ w', (Instr.sliceAt 22 O none (some (.int .i64 ((len : Int) + 3))) none).run Try.prog w' = .ok S w' := fun w' => by
    rw [hS, hO, show ((len : Int) + 3) = ((len + 3 : Nat) : Int) by omega, ecut_upto _ _ _ _ (by omega), sliced_zero]
  have q2 : ∀ w' ty, (Builtin.len_ #[22] ty #[S]).run Try.prog w' = .ok (.int .i64 ((len : Int) + 3)) w' := fun w' ty => by
    rw [hS, elenRun]; rfl
  have q3 : Hid (∀ k : Nat, k < 3 → ∀ w', (Instr.indexAt 22 S (.int .i64 ((len : Int) + (k : Int)))).run Try.prog w' = .ok (.pointer (some ⟨g, (len + k) * 2, none⟩)) w') := fun k hk w' => by
    rw [hS, show ((len : Int) + (k : Int)) = ((len + k : Nat) : Int) by omega, eidxRun _ _ _ _ (by omega)]
  have q4 : ∀ w' ty, (Builtin.cap_ #[22] ty #[O]).run Try.prog w' = .ok (.int .i64 ((len : Int) + 3)) w' := fun w' ty => by
    rw [hO, ecapRun]; rfl
  rw [← hO] at hpl ⊢
  clear hS hO
  go_enter Try.func18, Try.ntmps18
  go_wp2_with fail
  rw [← hw0]
  clear hw0
  refine hpl.mono ?_
  rintro e w1 ⟨rfl, hb1⟩
  have HB1 := hide (kl_step hb1 HB0.out)
  have HCE : Hid (∀ k, k < 3 → w1.cell? ⟨g, (len + k) * 2, none⟩ = some (.string s) ∧ w1.cell? ⟨g, (len + k) * 2 + 1, none⟩ = some (.int .i64 n)) := fun k hk => ⟨kl_cell hb1 (hce.out k hk).1, kl_cell hb1 (hce.out k hk).2⟩
  have c0 := kl_cell hb1 HC0.out
  have c1 := kl_cell hb1 HC1.out
  clear hce hpl hb1 HC0 HC1
  go_wp2
  go_loopw [8] (fun i wr => ∃ k : Nat, k ≤ 3 ∧ i = .int .i64 ((len : Int) + (k : Int)) ∧ ∃ q, wr = w1.drewN q) (fun i _ => len + 3 - (intOf i).toNat)
  case atStart => exact ⟨0, Nat.zero_le _, by simp, 0, rfl⟩
  case round =>
    obtain ⟨k, hk, rfl, q, rfl⟩ := hrel
    by_cases hlt : k < 3
    · have hix := q3.out k hlt
      have hk' : (k : Int) < 3 := by omega
      obtain ⟨d0, d1⟩ := HCE.out k hlt
      generalize (len + k) * 2 = Q at *
      go_wp2_with fail
      go_quiet (fail)
      go_wp2
      exact ⟨⟨k + 1, by omega, by go_num, _, rfl⟩, by simp [intOf]; omega⟩
    · obtain rfl : k = 3 := by omega
      go_wp2
      go_ret
      exact ⟨rfl, bel_drewN HB1.out q⟩
end Go.Proofs.Ytjmdinfdnjbcoaa
