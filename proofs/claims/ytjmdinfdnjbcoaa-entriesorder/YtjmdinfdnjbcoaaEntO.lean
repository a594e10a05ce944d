/-
  Entries: slices.Delete of one entry out of a row that the call owns; Remove; the document's Remove.
-/
import Derived.Test.YtjmdinfdnjbcoaaEntN
import Derived.Test.YtjmdinfdnjbcoaaEntF
namespace Go.Proofs.Ytjmdinfdnjbcoaa
open Go.RowKit
set_option linter.unusedVariables false
set_option maxRecDepth 100000

theorem step_appendE {ops : Array Oper} {o : Oper} {a : Act} {w : World} {K : Act → World → Prop} {Q : Exit → Act → World → Prop} {E : Prop}
    (hg : o.guard = none) (d x : Operand) (dT sT : TypeId) (hop : o.op = Op.call { callee := Callee.builtin Builtin.append, args := #[d, x], argTypes := #[dT, sT] })
    (v u : Value) (hd : a.eval d = v) (hx : a.eval x = u) {v' : Value} {w' : World} (hr : (Builtin.append_ #[dT, sT] o.type #[v, u]).run Try.prog w = .ok v' w') (hK : K (a.put o.dst v') w') :
    if Region.wanted o (yielded ops a.tmps) = true then Oper.wp Try.prog o a w K Q else E := by
  rw [if_pos (by simp [Region.wanted, hg])]
  unfold Oper.wp
  simp [execOp, hop, resolve, invoke, builtin, hd, hx, hr, Result.andThen]
  exact hK
theorem wpList_clear_run (w : World) {ops : Array Oper} {rest : List Oper} {o : Oper} {a : Act} {Q : Exit → Act → World → Prop} (hgd : o.guard = none) (s : Operand) (t : TypeId)
    (ho : o.op = .call { callee := .builtin .clear, args := #[s], argTypes := #[t] }) (u : Value) (hs : a.eval s = u) {v' : Value} {w' : World}
    (hr : (Builtin.clear_ #[t] o.type #[u]).run Try.prog w = .ok v' w') (h : wpList Try.prog ops Q rest (a.put o.dst v') w') : wpList Try.prog ops Q (o :: rest) a w :=
  wpList_plain hgd fun _ hK => by
    unfold Oper.wp
    simp [execOp, ho, resolve, invoke, builtin, hs, hr, Result.andThen]
    exact hK _ _ h
theorem run_clearE (w : World) (ty : TypeId) (g o c : Nat) (cur : Array Value) (t : TypeId) (hg : Blk w g cur t) (hfit : o + 2 ≤ cur.size) :
    ∃ cur', (Builtin.clear_ #[22] ty #[.slice (some ⟨g, o, none⟩) 1 c]).run Try.prog w = .ok (.tuple #[]) (w.setRow g cur') ∧ cur'.size = cur.size ∧ cur'.toList.take o = cur.toList.take o := by
  have hz : ∀ w, (zeroValue (Try.prog.elem 22)).run Try.prog w = .ok (.agg #[.string ByteArray.empty, .int .i64 0]) w := fun w => by kernel_rfl
  have hZ : (Builtin.zeroCells #[.string ByteArray.empty, .int .i64 0] 1).toList = [.string ByteArray.empty, .int .i64 0] := by kernel_rfl
  have hst := run_storeCells_at Try.prog g o t [.string ByteArray.empty, .int .i64 0] 0 cur w hg (by simpa using hfit) (by intro u hu; simp at hu; rcases hu with rfl | rfl <;> rfl)
  refine ⟨(cur.toList.take (o + 0) ++ [Value.string ByteArray.empty, Value.int .i64 0] ++ cur.toList.drop (o + 0 + 2)).toArray, ?_, ?_, ?_⟩
  · unfold Builtin.clear_
    simp [run_underlying entsTy, hz, Value.cells, hZ] at hst ⊢
    rw [hst]
    rfl
  · simp; omega
  · simp
    rw [List.take_append_of_le_length (by simp; omega), List.take_take, Nat.min_self]

theorem flatE_cut (l : List En) (i : Nat) : flatE (cutAt l i) = flatE (l.take i) ++ flatE (l.drop (i + 1)) := by rw [cutAt, flatE_append]
theorem cut_wf {l : List En} (hl : ∀ r ∈ l, r.Wf) (i : Nat) : ∀ r ∈ cutAt l i, r.Wf := by
  intro r hr
  rcases List.mem_append.1 hr with h | h
  · exact hl r (List.mem_of_mem_take h)
  · exact hl r (List.mem_of_mem_drop h)

set_option maxHeartbeats 4000000 in
theorem Delete_any (w : World) (base : Nat) (v : Value) (l : List En) (i : Nat) (h : EOwn base w v l) (hz : l.length ≤ 1000000) (hi : i < l.length) :
    Calls Try.prog 25 #[v, .int .i64 i, .int .i64 ((i : Int) + 1)] w fun r w' => ∃ u, r = .returned u ∧ EOwn base w' u (cutAt l i) ∧ w.grownBy w' v.ownBlock := by
  obtain ⟨g, cap, cur, rfl, hgb, hB, hc, hcm, hcs, ht⟩ := h.open (by omega)
  obtain ⟨i0, hi0, hz0, hz1, hz2⟩ := info_parts infoEn
  have hwf := h.2
  obtain ⟨n, hn⟩ : ∃ n, l.length = n := ⟨_, rfl⟩
  have hF1 : (flatE (l.take i)).length = i * 2 := by rw [flatE_length, List.length_take]; omega
  have hF2 : (flatE (l.drop (i + 1))).length = (n - (i + 1)) * 2 := by rw [flatE_length, List.length_drop, hn]
  have hT1 : (flatE l).take (i * 2) = flatE (l.take i) := (flatE_take l i).symm
  have hT2 : (flatE l).drop ((i + 1) * 2) = flatE (l.drop (i + 1)) := (flatE_drop l (i + 1)).symm
  rw [hn] at hc ht hz hi ⊢
  rw [← ht] at hT1 hT2
  obtain ⟨F1, hF1'⟩ : ∃ F, F = flatE (l.take i) := ⟨_, rfl⟩
  obtain ⟨F2, hF2'⟩ : ∃ F, F = flatE (l.drop (i + 1)) := ⟨_, rfl⟩
  rw [← hF1'] at hF1 hT1
  rw [← hF2'] at hF2 hT2
  rw [List.take_take, Nat.min_eq_left (by omega)] at hT1
  have hL : cur.toList.length = cap * 2 := by rw [Array.length_toList]; exact hcs
  have hcF2 : ∀ (j : Nat) (v : Value), F2[j]? = some v → cur[(i + 1) * 2 + j]? = some v := by
    intro j v hj
    have hjl := (List.getElem?_eq_some_iff.1 hj).1
    rw [← hT2, List.getElem?_drop, List.getElem?_take_of_lt (by omega), Array.getElem?_toList] at hj
    exact hj
  -- what stands in the block
  obtain ⟨cur1, hcur1⟩ : ∃ c, c = (cur.toList.take (i * 2) ++ F2 ++ cur.toList.drop (i * 2 + F2.length)).toArray := ⟨_, rfl⟩
  have hs1 : cur1.size = cap * 2 := by rw [hcur1, List.size_toArray]; simp only [List.length_append, List.length_take, List.length_drop, hL]; omega
  obtain ⟨W1, hW1⟩ : ∃ W, W = w.drew.setRow g cur1 := ⟨_, rfl⟩
  have hBd : Blk w.drew g cur 24 := hB
  have hB1 : Blk W1 g cur1 24 := by rw [hW1]; exact blk_setRow hBd
  have hg1 : w.grownBy W1 (some g) := by rw [hW1]; exact grown_trans (grown_drew w _) (grown_setRow _ _ _)
  obtain ⟨A, hA⟩ : ∃ A : Addr, A = (if cap = i + 1 then ⟨g, 0, none⟩ else ⟨g, 0 + (i + 1) * 2, none⟩) := ⟨_, rfl⟩
  obtain ⟨S, hS⟩ : ∃ S : Value, S = .slice (some ⟨g, 0, none⟩) n cap := ⟨_, rfl⟩
  obtain ⟨S0, hS0⟩ : ∃ S : Value, S = sliced (some ⟨g, 0, none⟩) i (i + 1) n 2 := ⟨_, rfl⟩
  obtain ⟨S1, hS1⟩ : ∃ S : Value, S = .slice (some ⟨g, 0, none⟩) i cap := ⟨_, rfl⟩
  obtain ⟨S2, hS2⟩ : ∃ S : Value, S = .slice (some A) (n - (i + 1)) (cap - (i + 1)) := ⟨_, rfl⟩
  obtain ⟨S3, hS3⟩ : ∃ S : Value, S = .slice (some ⟨g, 0, none⟩) (i + (n - (i + 1))) cap := ⟨_, rfl⟩
  obtain ⟨S4, hS4⟩ : ∃ S : Value, S = .slice (some ⟨g, 0 + (n - 1) * 2, none⟩) (n - (n - 1)) (cap - (n - 1)) := ⟨_, rfl⟩
  have q1 : ∀ w', (Instr.sliceAt 22 S (some (.int .i64 (i : Int))) (some (.int .i64 ((i : Int) + 1))) (some (.int .i64 (n : Int)))).run Try.prog w' = .ok S0 w' := fun w' => by
    rw [hS, hS0, show ((i : Int) + 1) = ((i + 1 : Nat) : Int) by omega]; exact ecut_three _ _ _ _ _ _ (by omega) (by omega) (by omega) w'
  have q2 : ∀ w', (Instr.sliceAt 22 S none (some (.int .i64 (i : Int))) none).run Try.prog w' = .ok S1 w' := fun w' => by
    rw [hS, hS1, ecut_upto _ _ _ _ (by omega), sliced_zero]
  have q3 : ∀ w', (Instr.sliceAt 22 S (some (.int .i64 ((i : Int) + 1))) none none).run Try.prog w' = .ok S2 w' := fun w' => by
    rw [hS, hS2, show ((i : Int) + 1) = ((i + 1 : Nat) : Int) by omega, ecut_from _ _ _ _ (by omega), hA]
    unfold sliced
    split <;> simp [Addr.add_lit]
  have q4 : ∀ w', (Instr.sliceAt 22 S3 (some (.int .i64 ((n : Int) - 1))) (some (.int .i64 (n : Int))) none).run Try.prog w' = .ok S4 w' := fun w' => by
    rw [hS3, hS4, show ((n : Int) - 1) = ((n - 1 : Nat) : Int) by omega, ecut_btw _ _ _ _ _ (by omega) (by omega), sliced_in _ _ _ _ _ (by omega)]
  have q5 : ∀ w' ty, (Builtin.len_ #[22] ty #[S]).run Try.prog w' = .ok (.int .i64 (n : Int)) w' := fun w' ty => by rw [hS]; exact elenRun _ _ _ w' ty
  have q6 : ∀ w' ty, (Builtin.len_ #[22] ty #[S3]).run Try.prog w' = .ok (.int .i64 ((n : Int) - 1)) w' := fun w' ty => by
    rw [hS3, elenRun, show ((i + (n - (i + 1)) : Nat) : Int) = (n : Int) - 1 by omega]
  have hap : ∀ ty, (Builtin.append_ #[22, 22] ty #[S1, S2]).run Try.prog w.drew = .ok S3 W1 := fun ty => by
    rw [hS1, hS2, hS3, hW1, hcur1]
    have := run_append_room (P := Try.prog) w.drew 22 ty 24 i0 Try.underlying22 hi0 g i cap cur hBd A (n - (i + 1)) (cap - (i + 1)) F2 (by rw [hz1]; exact hF2) (fun j v hj => by
      have hjl := (List.getElem?_eq_some_iff.1 hj).1
      rw [hA, if_neg (by omega), Addr.add_lit, hBd.cell, Nat.zero_add]
      exact hcF2 j v hj) (by rw [hF2']; exact flatE_one _) (by omega) (by rw [hz1]; omega)
    rwa [hz1] at this
  obtain ⟨cur2, hcl0, hs2, ht2⟩ := run_clearE W1 0 g ((n - 1) * 2) (cap - (n - 1)) cur1 _ hB1 (by omega)
  obtain ⟨W2, hW2⟩ : ∃ W, W = W1.setRow g cur2 := ⟨_, rfl⟩
  have hcl : ∀ ty, (Builtin.clear_ #[22] ty #[S4]).run Try.prog W1 = .ok (.tuple #[]) W2 := fun ty => by
    rw [hS4, hW2, show n - (n - 1) = 1 by omega, Nat.zero_add]
    exact hcl0
  have hB2 : Blk W2 g cur2 24 := by rw [hW2]; exact blk_setRow hB1
  have hg2 : w.grownBy W2 (some g) := by rw [hW2]; exact grown_trans hg1 (grown_setRow _ _ _)
  have hlen : (cutAt l i).length = n - 1 := by rw [cutAt_length _ _ (by omega), hn]
  have HOUT : Hid (EOwn base W2 S3 (cutAt l i)) := by
    have := EOwn.of_blk (base := base) (l := cutAt l i) (cap := cap) hgb hB2 (by omega) hcm (hs2.trans hs1) (by
      rw [hlen, ht2, flatE_cut, ← hF1', ← hF2', hcur1]
      simp only [hT1]
      rw [List.take_append_of_le_length (by simp only [List.length_append]; omega), List.take_of_length_le (by simp only [List.length_append]; omega)]) (cut_wf hwf i)
    rw [hlen] at this
    rw [hS3, show i + (n - (i + 1)) = n - 1 by omega]
    exact this
  have HG := hide hg2
  rw [← hS]
  have hob : S.ownBlock = some g := by rw [hS]; rfl
  have HOB := hide hob
  have hw1 : IntKind.i64.wrap ((i : Int) + 1) = (i : Int) + 1 := by rw [IntKind.wrap_i64]; omega
  have hk1 : ¬ ((i : Int) = (i : Int) + 1) := by omega
  clear hob hS hS0 hS1 hS2 hS3 hS4 hA hcl0 hB hBd hB1 hB2 hg1 hg2 hW1 hW2 hcur1 hcF2 hs1 hs2 ht2 hF1 hF2 hF1' hF2' hT1 hT2 ht hL hlen hcs hn hc h
  go_enter Try.func25, Try.ntmps25
  go_wp2_with fail
  go_region_law (refine step_appendE rfl _ _ 22 22 rfl _ _ (by simp [Act.eval, Act.put]) (by simp [Act.eval, Act.put]) (hap _) ?_)
  go_wp2_with (at_builtin; refine wpList_clear_run _ rfl _ 22 rfl _ rfl (hcl _) ?_)
  go_ret
  exact ⟨_, rfl, HOUT.out, by rw [HOB.out]; exact HG.out⟩
end Go.Proofs.Ytjmdinfdnjbcoaa
