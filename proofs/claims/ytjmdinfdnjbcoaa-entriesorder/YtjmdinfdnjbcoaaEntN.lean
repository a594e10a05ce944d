/-
  Entries: slices.Insert where there is no room; Insert as a whole.
-/
import Derived.Test.YtjmdinfdnjbcoaaEntL
namespace Go.Proofs.Ytjmdinfdnjbcoaa
open Go.RowKit
set_option linter.unusedVariables false
set_option maxRecDepth 100000

set_option maxHeartbeats 4000000 in
theorem Insert_grow (w : World) (base : Nat) (l : List En) (e : En) (vb k g : Nat) (cur : Array Value) (t : TypeId) (hbase : base ≤ w.heap.size) (hB : Blk w g cur 24) (hcs : cur.size = l.length * 2) (ht : cur.toList.take (l.length * 2) = flatE l) (hwf : ∀ r ∈ l, r.Wf)
    (hz : l.length ≤ 1000000) (hv : Blk w vb #[.string e.s, .int .i64 e.n] t) (he : e.Wf) (hk : k < l.length) :
    Calls Try.prog 22 #[.slice (some ⟨g, 0, none⟩) l.length l.length, .int .i64 k, .slice (some ⟨vb, 0, none⟩) 1 1] w fun r w' => ∃ u, r = .returned u ∧ EOwn base w' u (insS l k e) ∧ w.grownBy w' (some g) := by
  obtain ⟨n, hn⟩ : ∃ n, l.length = n := ⟨_, rfl⟩
  obtain ⟨i0, hi, hz0, hz1, hz2⟩ := info_parts infoEn
  have hF1 : (flatE (l.take k)).length = k * 2 := by rw [flatE_length, List.length_take]; omega
  have hF2 : (flatE (l.drop k)).length = (n - k) * 2 := by rw [flatE_length, List.length_drop, hn]
  have hFF : flatE l = flatE (l.take k) ++ flatE (l.drop k) := by rw [← flatE_append, List.take_append_drop]
  rw [hn] at hcs ht hz hk ⊢
  obtain ⟨F1, hF1'⟩ : ∃ F, F = flatE (l.take k) := ⟨_, rfl⟩
  obtain ⟨F2, hF2'⟩ : ∃ F, F = flatE (l.drop k) := ⟨_, rfl⟩
  rw [← hF1', ← hF2'] at hFF
  rw [← hF1'] at hF1
  rw [← hF2'] at hF2
  rw [hFF] at ht
  have hL : cur.toList.length = n * 2 := by rw [Array.length_toList]; exact hcs
  have hcF1 : ∀ (j : Nat) (v : Value), F1[j]? = some v → cur[j]? = some v := by
    intro j v hj
    have hjl := (List.getElem?_eq_some_iff.1 hj).1
    have h1 : (F1 ++ F2)[j]? = some v := by rw [List.getElem?_append_left hjl]; exact hj
    rw [← ht, List.getElem?_take_of_lt (by omega), Array.getElem?_toList] at h1
    exact h1
  have hcF2 : ∀ j v, F2[j]? = some v → cur[k * 2 + j]? = some v := by
    intro j v hj
    have hjl := (List.getElem?_eq_some_iff.1 hj).1
    have h1 : (F1 ++ F2)[k * 2 + j]? = some v := by rw [List.getElem?_append_right (by omega), hF1, Nat.add_sub_cancel_left]; exact hj
    rw [← ht, List.getElem?_take_of_lt (by omega), Array.getElem?_toList] at h1
    exact h1
  have hgl := hB.lt
  have hvl := hv.lt
  -- the new row
  obtain ⟨G, hG⟩ : ∃ G, G = grownCap w (n + 1) n 24 := ⟨_, rfl⟩
  have hGn : n + 1 ≤ G := by rw [hG]; exact grownCap_ge w _ _ _
  have hGm : G ≤ maxLen := by rw [hG]; exact grownCap_le_maxLen w (n + 1) n _ (by unfold maxLen; omega)
  obtain ⟨h, hh⟩ : ∃ h, h = w.heap.size := ⟨_, rfl⟩
  obtain ⟨ROW, hROW⟩ : ∃ R : Array Value, R = F1.toArray ++ Builtin.zeroCells (Value.agg #[.string ByteArray.empty, .int .i64 0]).cells (n + 1 - k) ++ Builtin.zeroCells (Value.agg #[.string ByteArray.empty, .int .i64 0]).cells (G - (n + 1)) := ⟨_, rfl⟩
  have hRs : ROW.size = G * 2 := by
    rw [hROW]
    simp only [Array.size_append, size_zeroCells, List.size_toArray, hF1, show (Value.agg #[.string ByteArray.empty, .int .i64 0]).cells.size = 2 from rfl]
    omega
  have hRF : ROW.toList.take F1.length = F1 := by
    rw [hROW]
    simp only [Array.toList_append, List.append_assoc]
    exact List.take_left' rfl
  obtain ⟨W1, hW1⟩ : ∃ W, W = w.drew.alloc (.cells ROW 24) := ⟨_, rfl⟩
  have hold : (Builtin.firstCells i0.size k (.slice (some ⟨g, 0, none⟩) k n)).run Try.prog w.drew = .ok F1.toArray w.drew := by
    rw [hz1]
    exact run_firstCells_some w.drew 2 k ⟨g, 0, none⟩ k n F1 hF1 (fun j v hj => by
      rw [Addr.add_lit, Nat.zero_add, show w.drew.cell? ⟨g, j, none⟩ = w.cell? ⟨g, j, none⟩ from rfl, hB.cell]
      exact hcF1 j v hj)
  have hrz : ∀ ty, (Builtin.append_ #[22, 3] ty #[.slice (some ⟨g, 0, none⟩) k n, .int .i64 ((n : Int) + 1 - (k : Int))]).run Try.prog w = .ok (.slice (some ⟨h, 0, none⟩) (n + 1) G) W1 := fun ty => by
    have hik : k + (n + 1 - k) = n + 1 := by omega
    have h := Lib.run_append_grow_zeros w 22 3 ty 24 i0 _ .i64 .i64 Try.underlying22 Try.underlying3 hi hz0 (some ⟨g, 0, none⟩) k n F1 hold (n + 1 - k) (by omega) (by omega) (by omega) (by omega) (by rw [hz2]; omega) (by rw [hz2, hik]; exact growslice_fits (by omega) (by omega))
    rw [hik, ← hG, ← hROW, ← hW1, ← hh] at h
    rw [show (n : Int) + 1 - (k : Int) = ((n + 1 - k : Nat) : Int) by omega]
    exact h
  -- what stands in it
  obtain ⟨cur2, hcur2⟩ : ∃ c, c = (splice ROW.toList (k * 2) e.cells).toArray := ⟨_, rfl⟩
  obtain ⟨cur3, hcur3⟩ : ∃ c, c = (splice cur2.toList ((k + 1) * 2) F2).toArray := ⟨_, rfl⟩
  have hel : e.cells.length = 2 := rfl
  have hRl : ROW.toList.length = G * 2 := (Array.length_toList).trans hRs
  have hs2 : cur2.size = G * 2 := by rw [hcur2, List.size_toArray, length_splice _ _ _ (by omega), hRl]
  have hl2 : cur2.toList.length = G * 2 := (Array.length_toList).trans hs2
  have hs3 : cur3.size = G * 2 := by rw [hcur3, List.size_toArray, length_splice _ _ _ (by omega), hl2]
  have hfin : cur3.toList = F1 ++ (e.cells ++ (F2 ++ ROW.toList.drop (F1.length + e.cells.length + F2.length))) := by
    rw [hcur3, hcur2]
    have := splice_fill ROW.toList F1 F2 e.cells hRF (by rw [hF1, hF2, hel]; omega)
    simpa [hF1, hel, show k * 2 + 2 = (k + 1) * 2 by omega] using this
  -- the worlds
  obtain ⟨W2, hW2⟩ : ∃ W, W = W1.setRow h cur2 := ⟨_, rfl⟩
  obtain ⟨W3, hW3⟩ : ∃ W, W = W2.drew.setRow h cur3 := ⟨_, rfl⟩
  have hB1 : Blk W1 h ROW 24 := by rw [hW1, hh]; exact Blk.new w.drew _ _
  have hB2 : Blk W2 h cur2 24 := by rw [hW2]; exact blk_setRow hB1
  have hB2d : Blk W2.drew h cur2 24 := hB2
  have hB3 : Blk W3 h cur3 24 := by rw [hW3]; exact blk_setRow hB2d
  have hb1 : Below w.heap.size w W1 := by rw [hW1]; exact (kl_drew w).alloc (Nat.le_refl _) _
  have hb2 : Below w.heap.size w W2 := by rw [hW2]; exact hb1.grown (grown_setRow _ _ _) hb1.size (fun j e => by cases e; omega)
  have hb3 : Below w.heap.size w W3 := by rw [hW3]; exact (hb2.drew).grown (grown_setRow _ _ _) hb2.size (fun j e => by cases e; omega)
  have hv1 : Blk W1 vb #[.string e.s, .int .i64 e.n] t := hv.below hb1 hvl
  have hg2 : Blk W2.drew g cur 24 := hB.below hb2.drew hgl
  have hlen : (insS l k e).length = n + 1 := by rw [ins_length _ _ _ (by omega), hn]
  have HOUT : Hid (EOwn base W3 (.slice (some ⟨h, 0, none⟩) (n + 1) G) (insS l k e)) := by
    have := EOwn.of_blk (base := base) (l := insS l k e) (cap := G) (by omega) hB3 (by rw [hlen]; exact hGn) hGm hs3 (by
      rw [hlen, hfin, flatE_ins, ← hF1', ← hF2', ← List.append_assoc, ← List.append_assoc, List.take_append_of_le_length (by simp only [List.length_append, hF1, hF2, hel]; omega), List.take_of_length_le (by simp only [List.length_append, hF1, hF2, hel]; omega), List.append_assoc]) (ins_wf hwf he k)
    rwa [hlen] at this
  -- the cuts
  obtain ⟨S, hS⟩ : ∃ S : Value, S = .slice (some ⟨g, 0, none⟩) n n := ⟨_, rfl⟩
  obtain ⟨S0, hS0⟩ : ∃ S : Value, S = .slice (some ⟨g, 0, none⟩) k n := ⟨_, rfl⟩
  obtain ⟨S2, hS2⟩ : ∃ S : Value, S = .slice (some ⟨h, 0, none⟩) (n + 1) G := ⟨_, rfl⟩
  obtain ⟨D1, hD1⟩ : ∃ S : Value, S = .slice (some ⟨h, 0 + k * 2, none⟩) (n + 1 - k) (G - k) := ⟨_, rfl⟩
  obtain ⟨D2, hD2⟩ : ∃ S : Value, S = .slice (some ⟨h, 0 + (k + 1) * 2, none⟩) (n + 1 - (k + 1)) (G - (k + 1)) := ⟨_, rfl⟩
  obtain ⟨D3, hD3⟩ : ∃ S : Value, S = .slice (some ⟨g, 0 + k * 2, none⟩) (n - k) (n - k) := ⟨_, rfl⟩
  have q1 : ∀ w', (Instr.sliceAt 22 S (some (.int .i64 (k : Int))) none none).run Try.prog w' = .ok D3 w' := fun w' => by rw [hS, hD3, ecut_from _ _ _ _ (by omega), sliced_in _ _ _ _ _ (by omega)]
  have q2 : ∀ w', (Instr.sliceAt 22 S none (some (.int .i64 (k : Int))) none).run Try.prog w' = .ok S0 w' := fun w' => by
    rw [hS, hS0, ecut_upto _ _ _ _ (by omega), sliced_zero]
  have q3 : ∀ w', (Instr.sliceAt 22 S2 (some (.int .i64 ((k : Int) + 1))) none none).run Try.prog w' = .ok D2 w' := fun w' => by
    rw [hS2, hD2, show ((k : Int) + 1) = ((k + 1 : Nat) : Int) by omega, ecut_from _ _ _ _ (by omega), sliced_in _ _ _ _ _ (by omega)]
  have q4 : ∀ w', (Instr.sliceAt 22 S2 (some (.int .i64 (k : Int))) none none).run Try.prog w' = .ok D1 w' := fun w' => by
    rw [hS2, hD1, ecut_from _ _ _ _ (by omega), sliced_in _ _ _ _ _ (by omega)]
  have q5 : ∀ w' ty, (Builtin.len_ #[22] ty #[S]).run Try.prog w' = .ok (.int .i64 (n : Int)) w' := fun w' ty => by rw [hS]; exact elenRun _ _ _ w' ty
  have q6 : ∀ w' ty, (Builtin.cap_ #[22] ty #[S]).run Try.prog w' = .ok (.int .i64 (n : Int)) w' := fun w' ty => by rw [hS]; exact ecapRun _ _ _ w' ty
  rw [← hS0, ← hS2] at hrz
  have hcp1 : ∀ ty, (Builtin.copy_ #[22, 22] ty #[D1, .slice (some ⟨vb, 0, none⟩) 1 1]).run Try.prog W1 = .ok (goInt (Nat.min 1 (n + 1 - k))) W2 := fun ty => by
    rw [hD1, hW2, hcur2, Nat.zero_add]
    exact run_copyE W1 ty h _ _ _ ⟨vb, 0, none⟩ _ _ ROW _ e.cells hB1 (by rw [show Nat.min 1 (n + 1 - k) = 1 from Nat.min_eq_left (by omega)]; rfl) (fun j v hj => by
      rw [Addr.add_lit, Nat.zero_add, hv1.cell]; simpa [En.cells] using hj) (by rw [hRs, hel]; omega) (by intro u hu; simp [En.cells] at hu; rcases hu with rfl | rfl <;> rfl)
  have hcp2 : ∀ ty, (Builtin.copy_ #[22, 22] ty #[D2, D3]).run Try.prog W2.drew = .ok (goInt (Nat.min (n - k) (n + 1 - (k + 1)))) W3 := fun ty => by
    rw [hD2, hD3, hW3, hcur3, Nat.zero_add, Nat.zero_add]
    exact run_copyE W2.drew ty h _ _ _ ⟨g, k * 2, none⟩ _ _ cur2 _ F2 hB2d (by rw [hF2, show Nat.min (n - k) (n + 1 - (k + 1)) = n - k from Nat.min_eq_left (by omega)]) (fun j v hj => by rw [Addr.add_lit, hg2.cell]; exact hcF2 j v hj) (by omega) (by rw [hF2']; exact flatE_one _)
  have HG := hide hb3
  have HS2 := hide hS2
  rw [← hS]
  have hw1 : IntKind.i64.wrap ((k : Int) + 1) = (k : Int) + 1 := by rw [IntKind.wrap_i64]; omega
  have hk1 : ¬ ((k : Int) = (n : Int)) := by omega
  have hc1 : (n : Int) < (n : Int) + 1 := by omega
  clear hb1 hb2 hb3 hS hS0 hS2 hD1 hD2 hD3 hB hB1 hB2 hB2d hB3 hg2 hv hv1 hW1 hW2 hW3 hcur2 hcur3 hcF1 hcF2 hfin hs2 hs3 hl2 hRl hRs hRF hROW hel hF1 hF2 hFF hF1' hF2' ht hL hlen hcs hn hG hold hGm hgl hvl hh
  go_enter Try.func22, Try.ntmps22
  go_wp2_with (first
    | (at_builtin; refine Lib.wpList_append_run _ rfl _ _ _ _ rfl _ _ rfl rfl _ _ (hrz _) ?_)
    | (at_builtin; refine Lib.wpList_copy_run _ rfl _ _ 22 22 rfl _ _ rfl rfl (hcp1 _) ?_)
    | go_in)
  go_region_law (refine step_copyE rfl _ _ 22 22 rfl _ _ (by simp [Act.eval, Act.put]) (by simp [Act.eval, Act.put]) (hcp2 _) ?_)
  go_wp2
  go_ret
  exact ⟨_, rfl, by rw [HS2.out]; exact HOUT.out, below_grown HG.out _⟩

/-- slices.Insert of one entry, into a row that the call owns. -/
theorem Insert_any (w : World) (base : Nat) (v : Value) (l : List En) (e : En) (vb k : Nat) (t : TypeId) (h : EOwn base w v l) (hbase : base ≤ w.heap.size) (hz : l.length ≤ 1000000) (hv : Blk w vb #[.string e.s, .int .i64 e.n] t) (he : e.Wf) (hne : v.ownBlock ≠ some vb) (hk : k ≤ l.length) :
    Calls Try.prog 22 #[v, .int .i64 k, .slice (some ⟨vb, 0, none⟩) 1 1] w fun r w' => ∃ u, r = .returned u ∧ EOwn base w' u (insS l k e) ∧ w.grownBy w' v.ownBlock := by
  by_cases hkl : k = l.length
  · exact Insert_end w base v l e vb k t h hbase hz hv he hkl
  · obtain ⟨g, cap, cur, rfl, hb, hB, hc1, hc2, hcs, ht⟩ := h.open (by omega)
    by_cases hr : l.length + 1 ≤ cap
    · exact Insert_room w base l e vb k g cap cur #[] t hb hB hr hc2 hcs ht h.2 hz hv he (fun e => hne (by rw [e]; rfl)) (by omega)
    · obtain rfl : cap = l.length := by omega
      exact Insert_grow w base l e vb k g cur t hbase hB hcs ht h.2 hz hv he (by omega)
end Go.Proofs.Ytjmdinfdnjbcoaa
