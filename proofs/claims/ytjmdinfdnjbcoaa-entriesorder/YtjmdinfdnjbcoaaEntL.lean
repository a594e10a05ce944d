/-
  Entries: slices.Insert of one entry into a row that the call owns.
-/
import Derived.Test.YtjmdinfdnjbcoaaEntK
import Derived.Lib.Overlaps
import Derived.Lib.AppendZerosOnto
import Derived.Laws.Externs
import Derived.Deep.RegionLaw
namespace Go.Proofs.Ytjmdinfdnjbcoaa
open Go.RowKit
set_option linter.unusedVariables false
set_option maxRecDepth 100000

theorem insS_end (l : List En) (e : En) : insS l l.length e = l ++ [e] := by simp [insS]
theorem flatE_ins (l : List En) (k : Nat) (e : En) : flatE (insS l k e) = flatE (l.take k) ++ (e.cells ++ flatE (l.drop k)) := by
  rw [insS, flatE_append, flatE_cons]
theorem ins_wf {l : List En} {e : En} (hl : ∀ r ∈ l, r.Wf) (he : e.Wf) (k : Nat) : ∀ r ∈ insS l k e, r.Wf := by
  intro r hr
  rcases List.mem_append.1 hr with h | h
  · exact hl r (List.mem_of_mem_take h)
  · rcases List.mem_cons.1 h with rfl | h
    · exact he
    · exact hl r (List.mem_of_mem_drop h)

/-- An entry in a block of its own. -/
theorem one_row {w : World} {vb : Nat} {e : En} {t : TypeId} (h : Blk w vb #[.string e.s, .int .i64 e.n] t) (he : e.Wf) : ERow w (.slice (some ⟨vb, 0, none⟩) 1 1) [e] :=
  erow_blk h rfl (Nat.le_refl _) (by unfold maxLen; omega) rfl (fun r hr => by rw [List.mem_singleton.1 hr]; exact he)

set_option maxHeartbeats 4000000 in
/-- At the end: append. -/
theorem Insert_end (w : World) (base : Nat) (v : Value) (l : List En) (e : En) (vb k : Nat) (t : TypeId) (h : EOwn base w v l) (hbase : base ≤ w.heap.size) (hz : l.length ≤ 1000000) (hv : Blk w vb #[.string e.s, .int .i64 e.n] t) (he : e.Wf) (hk : k = l.length) :
    Calls Try.prog 22 #[v, .int .i64 k, .slice (some ⟨vb, 0, none⟩) 1 1] w fun r w' => ∃ u, r = .returned u ∧ EOwn base w' u (insS l k e) ∧ w.grownBy w' v.ownBlock := by
  have hlr := h.row.lenRun
  have HX := hide (one_row hv he)
  have HO := hide h
  have HF := hide (show l.length + [e].length ≤ 1000000000000 by simp; omega)
  have HI := hide (show insS l k e = l ++ [e] by rw [hk]; exact insS_end l e)
  obtain ⟨v1, hsl, _⟩ := h.row.from k (by omega)
  rw [← hk] at hlr hz
  clear hk h hv
  go_enter Try.func22, Try.ntmps22
  go_wp2_with (at_builtin; refine wpList_append_ents rfl _ _ rfl base v _ l [e] rfl HO.out rfl HX.out HF.out hbase ?_)
  intro v' w' hown hg
  have HW := hide hown
  have HG := hide hg
  clear hown hg
  go_wp2
  go_ret
  exact ⟨_, rfl, by rw [HI.out]; exact HW.out, HG.out⟩

theorem run_overE (w : World) (vb g o la lb cb : Nat) (cs cur : Array Value) (t : TypeId) (hv : Blk w vb cs t) (hg : Blk w g cur 24) (hne : vb ≠ g) (h0 : cur.size ≠ 0) :
    (callFunc 31 #[.slice (some ⟨vb, 0, none⟩) 1 1, .slice (some ⟨g, o, none⟩) lb cb]).run Try.prog w = .ok (.value (.bool false)) w := by
  have hz : ∀ w, (Go.sizeOf 24).run Try.prog w = .ok 2 w := fun w => by kernel_rfl
  have hsa : w.shape? vb = some (t, cs.size) := by simp [World.shape?, show w.heap[vb]? = _ from hv]
  have hsb : w.shape? g = some (24, cur.size) := by simp [World.shape?, show w.heap[g]? = _ from hg]
  rw [run_callFunc_extern Try.func31 (by kernel_rfl) (by kernel_rfl) (by kernel_rfl) (e := Extern.SlicesOverlaps.overlaps #[22, 22] #[4]) (by kernel_rfl),
    Lib.run_overlaps_apart w 22 4 24 Try.underlying22 2 hz ⟨vb, 0, none⟩ ⟨g, o, none⟩ 1 1 lb cb hne t 24 cs.size cur.size hsa hsb h0 (hv.frozen 0) (hv.frozen cs.size)]
  rfl


set_option maxHeartbeats 4000000 in
/-- There is room: in place. -/
theorem Insert_room (w : World) (base : Nat) (l : List En) (e : En) (vb k g cap : Nat) (cur cs : Array Value) (t : TypeId) (hgb : base ≤ g) (hB : Blk w g cur 24) (hc : l.length + 1 ≤ cap) (hcm : cap ≤ maxLen) (hcs : cur.size = cap * 2) (ht : cur.toList.take (l.length * 2) = flatE l) (hwf : ∀ r ∈ l, r.Wf)
    (hz : l.length ≤ 1000000) (hv : Blk w vb #[.string e.s, .int .i64 e.n] t) (he : e.Wf) (hne : vb ≠ g) (hk : k < l.length) :
    Calls Try.prog 22 #[.slice (some ⟨g, 0, none⟩) l.length cap, .int .i64 k, .slice (some ⟨vb, 0, none⟩) 1 1] w fun r w' => ∃ u, r = .returned u ∧ EOwn base w' u (insS l k e) ∧ w.grownBy w' (some g) := by
  obtain ⟨n, hn⟩ : ∃ n, l.length = n := ⟨_, rfl⟩
  have HN := hide hn
  have hF1 : (flatE (l.take k)).length = k * 2 := by rw [flatE_length, List.length_take]; omega
  have hF2 : (flatE (l.drop k)).length = (n - k) * 2 := by rw [flatE_length, List.length_drop, hn]
  have hFF : flatE l = flatE (l.take k) ++ flatE (l.drop k) := by rw [← flatE_append, List.take_append_drop]
  rw [hn] at hc ht hz hk ⊢
  unfold maxLen at hcm
  obtain ⟨F1, hF1'⟩ : ∃ F, F = flatE (l.take k) := ⟨_, rfl⟩
  obtain ⟨F2, hF2'⟩ : ∃ F, F = flatE (l.drop k) := ⟨_, rfl⟩
  rw [← hF1', ← hF2'] at hFF
  rw [← hF1'] at hF1
  rw [← hF2'] at hF2
  rw [hFF] at ht
  have hL : cur.toList.length = cap * 2 := by rw [Array.length_toList]; exact hcs
  -- what stands in the block
  obtain ⟨cur1, hcur1⟩ : ∃ c, c = (splice cur.toList ((k + 1) * 2) F2).toArray := ⟨_, rfl⟩
  obtain ⟨cur2, hcur2⟩ : ∃ c, c = (splice cur1.toList (k * 2) e.cells).toArray := ⟨_, rfl⟩
  have hs1 : cur1.size = cap * 2 := by rw [hcur1, List.size_toArray, length_splice _ _ _ (by omega), hL]
  have hs2 : cur2.size = cap * 2 := by rw [hcur2, List.size_toArray, length_splice _ _ _ (by have : e.cells.length = 2 := rfl; have : cur1.toList.length = cap * 2 := (Array.length_toList).trans hs1; omega), Array.length_toList, hs1]
  have hfin : cur2.toList = F1 ++ (e.cells ++ (F2 ++ cur.toList.drop (F1.length + e.cells.length + F2.length))) := by
    rw [hcur2, hcur1]
    have := splice_shift cur.toList F1 F2 e.cells (by rw [hF1, hF2, show k * 2 + (n - k) * 2 = n * 2 by omega]; exact ht) (by rw [hF1, hF2, show e.cells.length = 2 from rfl]; omega)
    rw [hF1, show e.cells.length = 2 from rfl, show k * 2 + 2 = (k + 1) * 2 by omega] at this
    simpa [hF1, show e.cells.length = 2 from rfl, show k * 2 + 2 = (k + 1) * 2 by omega] using this
  have hcF2 : ∀ j v, F2[j]? = some v → cur[k * 2 + j]? = some v := by
    intro j v hj
    have hjl := (List.getElem?_eq_some_iff.1 hj).1
    have h1 : (F1 ++ F2)[k * 2 + j]? = some v := by rw [List.getElem?_append_right (by omega), hF1, Nat.add_sub_cancel_left]; exact hj
    rw [← ht, List.getElem?_take_of_lt (by omega), Array.getElem?_toList] at h1
    exact h1
  -- the worlds
  obtain ⟨W1, hW1⟩ : ∃ W, W = w.drew.setRow g cur1 := ⟨_, rfl⟩
  obtain ⟨W2, hW2⟩ : ∃ W, W = W1.setRow g cur2 := ⟨_, rfl⟩
  have hBd : Blk w.drew g cur 24 := hB
  have hB1 : Blk W1 g cur1 24 := by rw [hW1]; exact blk_setRow hBd
  have hB2 : Blk W2 g cur2 24 := by rw [hW2]; exact blk_setRow hB1
  have hg1 : w.grownBy W1 (some g) := by rw [hW1]; exact grown_trans (grown_drew w _) (grown_setRow _ _ _)
  have hg2 : w.grownBy W2 (some g) := by rw [hW2]; exact grown_trans hg1 (grown_setRow _ _ _)
  have hv1 : Blk W1 vb #[.string e.s, .int .i64 e.n] t := hv.kept hg1 (by simpa using hne)
  have hlen : (insS l k e).length = n + 1 := by rw [ins_length _ _ _ (by omega), hn]
  have HOUT : Hid (EOwn base W2 (.slice (some ⟨g, 0, none⟩) (n + 1) cap) (insS l k e)) := by
    have := EOwn.of_blk (base := base) (l := insS l k e) (cap := cap) hgb hB2 (by rw [hlen]; exact hc) (by unfold maxLen; exact hcm) hs2 (by
      rw [hlen, hfin, flatE_ins, ← hF1', ← hF2', ← List.append_assoc, ← List.append_assoc, List.take_append_of_le_length (by simp only [List.length_append, hF1, hF2, show e.cells.length = 2 from rfl]; omega), List.take_of_length_le (by simp only [List.length_append, hF1, hF2, show e.cells.length = 2 from rfl]; omega), List.append_assoc]) (ins_wf hwf he k)
    rwa [hlen] at this
  -- the cuts
  obtain ⟨S, hS⟩ : ∃ S : Value, S = .slice (some ⟨g, 0, none⟩) n cap := ⟨_, rfl⟩
  obtain ⟨S1, hS1⟩ : ∃ S : Value, S = sliced (some ⟨g, 0, none⟩) k n cap 2 := ⟨_, rfl⟩
  obtain ⟨S2, hS2⟩ : ∃ S : Value, S = .slice (some ⟨g, 0, none⟩) (n + 1) cap := ⟨_, rfl⟩
  obtain ⟨D1, hD1⟩ : ∃ S : Value, S = .slice (some ⟨g, 0 + (k + 1) * 2, none⟩) (n + 1 - (k + 1)) (cap - (k + 1)) := ⟨_, rfl⟩
  obtain ⟨D2, hD2⟩ : ∃ S : Value, S = .slice (some ⟨g, 0 + k * 2, none⟩) (n + 1 - k) (cap - k) := ⟨_, rfl⟩
  have q1 : ∀ w', (Instr.sliceAt 22 S (some (.int .i64 (k : Int))) none none).run Try.prog w' = .ok S1 w' := fun w' => by rw [hS, hS1]; exact ecut_from _ _ _ _ (by omega) w'
  have q2 : ∀ w', (Instr.sliceAt 22 S none (some (.int .i64 ((n : Int) + 1))) none).run Try.prog w' = .ok S2 w' := fun w' => by
    rw [hS, hS2, show ((n : Int) + 1) = ((n + 1 : Nat) : Int) by omega, ecut_upto _ _ _ _ (by omega), sliced_zero]
  have q3 : ∀ w', (Instr.sliceAt 22 S2 (some (.int .i64 ((k : Int) + 1))) none none).run Try.prog w' = .ok D1 w' := fun w' => by
    rw [hS2, hD1, show ((k : Int) + 1) = ((k + 1 : Nat) : Int) by omega, ecut_from _ _ _ _ (by omega), sliced_in _ _ _ _ _ (by omega)]
  have q4 : ∀ w', (Instr.sliceAt 22 S2 (some (.int .i64 (k : Int))) none none).run Try.prog w' = .ok D2 w' := fun w' => by
    rw [hS2, hD2, ecut_from _ _ _ _ (by omega), sliced_in _ _ _ _ _ (by omega)]
  have q5 : ∀ w' ty, (Builtin.len_ #[22] ty #[S]).run Try.prog w' = .ok (.int .i64 (n : Int)) w' := fun w' ty => by rw [hS]; exact elenRun _ _ _ w' ty
  have q6 : ∀ w' ty, (Builtin.cap_ #[22] ty #[S]).run Try.prog w' = .ok (.int .i64 (cap : Int)) w' := fun w' ty => by rw [hS]; exact ecapRun _ _ _ w' ty
  have hov : (callFunc 31 #[.slice (some ⟨vb, 0, none⟩) 1 1, D1]).run Try.prog w = .ok (.value (.bool false)) w := by
    rw [hD1]; exact run_overE w vb g _ 0 _ _ _ _ t hv hB hne (by omega)
  have hcp1 : ∀ ty, (Builtin.copy_ #[22, 22] ty #[D1, D2]).run Try.prog w.drew = .ok (goInt (Nat.min (n + 1 - k) (n + 1 - (k + 1)))) W1 := fun ty => by
    rw [hD1, hD2, hW1, hcur1, Nat.zero_add, Nat.zero_add]
    exact run_copyE w.drew ty g _ _ _ ⟨g, k * 2, none⟩ _ _ cur _ F2 hBd (by rw [hF2, show Nat.min (n + 1 - k) (n + 1 - (k + 1)) = n + 1 - (k + 1) from Nat.min_eq_right (by omega)]; congr 1; omega) (fun j v hj => by rw [Addr.add_lit, hBd.cell]; exact hcF2 j v hj) (by omega) (by rw [hF2']; exact flatE_one _)
  have hcp2 : ∀ ty, (Builtin.copy_ #[22, 22] ty #[D2, .slice (some ⟨vb, 0, none⟩) 1 1]).run Try.prog W1 = .ok (goInt (Nat.min 1 (n + 1 - k))) W2 := fun ty => by
    rw [hD2, hW2, hcur2, Nat.zero_add]
    exact run_copyE W1 ty g _ _ _ ⟨vb, 0, none⟩ _ _ cur1 _ e.cells hB1 (by rw [show Nat.min 1 (n + 1 - k) = 1 from Nat.min_eq_left (by omega)]; rfl) (fun j v hj => by
      rw [Addr.add_lit, Nat.zero_add, hv1.cell]; simpa [En.cells] using hj) (by rw [hs1, show e.cells.length = 2 from rfl]; omega) (by intro u hu; simp [En.cells] at hu; rcases hu with rfl | rfl <;> rfl)
  have HG := hide hg2
  have HS2 := hide hS2
  rw [← hS]
  have hw1 : IntKind.i64.wrap ((k : Int) + 1) = (k : Int) + 1 := by rw [IntKind.wrap_i64]; omega
  have hk1 : ¬ ((k : Int) = (n : Int)) := by omega
  have hc1 : ¬ ((cap : Int) < (n : Int) + 1) := by omega
  clear hg1 hg2 hS hS1 hS2 hD1 hD2 hB hBd hB1 hB2 hv hv1 hW1 hW2 hcur1 hcur2 hcF2 hfin hs1 hs2 hF1 hF2 hFF hF1' hF2' ht hL hlen hcs hn hc hne
  go_enter Try.func22, Try.ntmps22
  go_wp2_with (simp only [hov])
  go_region_law (refine step_copyE rfl _ _ 22 22 rfl _ _ (by simp [Act.eval, Act.put]) (by simp [Act.eval, Act.put]) (hcp1 _) ?_)
  go_wp2_with (at_builtin; refine Lib.wpList_copy_run _ rfl _ _ 22 22 rfl _ _ rfl rfl (hcp2 _) ?_)
  go_ret
  exact ⟨_, rfl, by rw [HS2.out]; exact HOUT.out, HG.out⟩
end Go.Proofs.Ytjmdinfdnjbcoaa
