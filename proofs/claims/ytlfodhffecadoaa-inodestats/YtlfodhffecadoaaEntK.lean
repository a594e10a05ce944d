/-
  Cuts of rows of entries, as equations; copy of entries into a block; what a row that the call owns is in its block.
-/
import Derived.Test.YtlfodhffecadoaaEntM
import Derived.Test.YtlfodhffecadoaaNameA
import Derived.Laws.CopyOwn
import Derived.Lib.SlBuf
namespace Go.Proofs.Ytlfodhffecadoaa
open Go.RowKit
set_option linter.unusedVariables false
set_option maxRecDepth 100000

theorem ecut_from (ao : Option Addr) (n c k : Nat) (hk : k ≤ n) (w' : World) : (Instr.sliceAt 22 (.slice ao n c) (some (.int .i64 (k : Int))) none none).run Try.prog w' = .ok (sliced ao k n c 2) w' := by
  rw [run_sliceAt_slice _ _ _ _ _ _ entsTy, run_slice_l _ _ _ _ _ entsTy .i64 k (by omega) (by omega), sizeEn]
  simp [Result.andThen]
theorem ecut_upto (ao : Option Addr) (n c k : Nat) (hk : k ≤ c) (w' : World) : (Instr.sliceAt 22 (.slice ao n c) none (some (.int .i64 (k : Int))) none).run Try.prog w' = .ok (sliced ao 0 k c 2) w' := by
  rw [run_sliceAt_slice _ _ _ _ _ _ entsTy, run_slice_h _ _ _ _ _ entsTy .i64 k (by omega) (by omega), sizeEn]
  simp [Result.andThen]
theorem ecut_btw (ao : Option Addr) (n c i j : Nat) (hi : i ≤ j) (hj : j ≤ c) (w' : World) : (Instr.sliceAt 22 (.slice ao n c) (some (.int .i64 (i : Int))) (some (.int .i64 (j : Int))) none).run Try.prog w' = .ok (sliced ao i j c 2) w' := by
  rw [run_sliceAt_slice _ _ _ _ _ _ entsTy, run_slice_lh _ _ _ _ _ entsTy .i64 .i64 i j (by omega) (by omega) (by omega), sizeEn]
  simp [Result.andThen]
theorem ecut_three (ao : Option Addr) (n c i j m : Nat) (hi : i ≤ j) (hj : j ≤ m) (hm : m ≤ c) (w' : World) : (Instr.sliceAt 22 (.slice ao n c) (some (.int .i64 (i : Int))) (some (.int .i64 (j : Int))) (some (.int .i64 (m : Int)))).run Try.prog w' = .ok (sliced ao i j m 2) w' := by
  rw [run_sliceAt_slice _ _ _ _ _ _ entsTy, run_slice_lhm _ _ _ _ _ entsTy .i64 .i64 .i64 i j m (by omega) (by omega) (by omega) (by omega), sizeEn]
  simp [Result.andThen]
theorem sliced_in (b o k j c : Nat) (h : c ≠ k) : sliced (some ⟨b, o, none⟩) k j c 2 = .slice (some ⟨b, o + k * 2, none⟩) (j - k) (c - k) := by
  unfold sliced
  rw [if_neg h]
  simp [Addr.add_lit]
theorem sliced_zero (b o j c : Nat) : sliced (some ⟨b, o, none⟩) 0 j c 2 = .slice (some ⟨b, o, none⟩) j c := by
  unfold sliced
  split <;> simp [Addr.add_lit]
theorem ecapRun (ao : Option Addr) (n c : Nat) (w' : World) (ty : TypeId) : (Builtin.cap_ #[22] ty #[.slice ao n c]).run Try.prog w' = .ok (.int .i64 (c : Int)) w' := by
  simp [Builtin.cap_, run_underlying entsTy, goInt]
theorem elenRun (ao : Option Addr) (n c : Nat) (w' : World) (ty : TypeId) : (Builtin.len_ #[22] ty #[.slice ao n c]).run Try.prog w' = .ok (.int .i64 (n : Int)) w' := by
  simp [Builtin.len_, run_underlying entsTy, goInt]

/-- A part of a row of entries. -/
theorem ERow.sub {w : World} {v : Value} {l : List En} (h : ERow w v l) (i j : Nat) (hij : i ≤ j) (hj : j ≤ l.length) :
    ∃ ao cap, v = .slice ao l.length cap ∧ l.length ≤ cap ∧ ERow w (sliced ao i j cap 2) ((l.drop i).take (j - i)) := by
  have hwf : ∀ r ∈ (l.drop i).take (j - i), r.Wf := fun r hr => h.2 r (List.mem_of_mem_drop (List.mem_of_mem_take hr))
  have hl : ((l.drop i).take (j - i)).length = j - i := by simp; omega
  obtain ⟨⟨ao, cap, rfl, h1, h2, h3, h4⟩, _⟩ := h
  refine ⟨ao, cap, rfl, h1, ⟨(if cap = i then ao else ao.map (·.add (i * 2))), cap - i, ?_, by rw [hl]; omega, by omega, ?_, ?_⟩, hwf⟩
  · unfold sliced; rw [hl]
  · intro e
    by_cases hc : cap = i
    · omega
    · rw [if_neg hc] at e
      simp at e
      have := h3 e
      omega
  · intro a ha p x hx q u hu
    have hp : p < j - i := by rw [← hl]; exact (List.getElem?_eq_some_iff.1 hx).1
    rw [if_neg (by omega)] at ha
    cases ao with
    | none => cases ha
    | some ad =>
      obtain rfl := Option.some.inj ha
      have hx' : l[i + p]? = some x := by
        rw [List.getElem?_take_of_lt hp, List.getElem?_drop] at hx
        exact hx
      have := h4 ad rfl (i + p) x hx' q u hu
      rw [Deep.add_add, show i * 2 + (p * 2 + q) = (i + p) * 2 + q by omega]
      exact this
/-- 'l[k:]'. -/
theorem ERow.from {w : World} {v : Value} {l : List En} (h : ERow w v l) (k : Nat) (hk : k ≤ l.length) :
    ∃ v', (∀ w', (Instr.sliceAt 22 v (some (.int .i64 (k : Int))) none none).run Try.prog w' = .ok v' w') ∧ ERow w v' (l.drop k) := by
  obtain ⟨ao, cap, rfl, hc, hr⟩ := h.sub k l.length hk (Nat.le_refl _)
  exact ⟨_, fun w' => ecut_from ao _ cap k hk w', by rwa [List.take_of_length_le (by simp)] at hr⟩
/-- 'l[:k]'. -/
theorem ERow.upto {w : World} {v : Value} {l : List En} (h : ERow w v l) (k : Nat) (hk : k ≤ l.length) :
    ∃ v', (∀ w', (Instr.sliceAt 22 v none (some (.int .i64 (k : Int))) none).run Try.prog w' = .ok v' w') ∧ ERow w v' (l.take k) := by
  obtain ⟨ao, cap, rfl, hc, hr⟩ := h.sub 0 k (Nat.zero_le _) hk
  exact ⟨_, fun w' => ecut_upto ao _ cap k (by omega) w', by simpa using hr⟩

/-! ### copy into a block -/
theorem run_copyE (w : World) (ty : TypeId) (g o dLen dCap : Nat) (a : Addr) (sLen sCap : Nat) (cur : Array Value) (t : TypeId) (cs : List Value)
    (hg : Blk w g cur t) (hn : cs.length = Nat.min sLen dLen * 2) (hsrc : ∀ j v, cs[j]? = some v → w.cell? (a.add j) = some v) (hfit : o + cs.length ≤ cur.size) (h1 : ∀ v ∈ cs, v.oneCell' = true) :
    (Builtin.copy_ #[22, 22] ty #[.slice (some ⟨g, o, none⟩) dLen dCap, .slice (some a) sLen sCap]).run Try.prog w = .ok (goInt (Nat.min sLen dLen)) (w.setRow g (splice cur.toList o cs).toArray) := by
  have hf := run_firstCells_some (P := Try.prog) w 2 (Nat.min sLen dLen) a sLen sCap cs hn hsrc
  have hst := run_storeCells_at Try.prog g o t cs 0 cur w hg (by simpa using hfit) h1
  have hz := sizeEn w
  have e : (splice cur.toList o cs).toArray = (cur.toList.take (o + 0) ++ cs ++ cur.toList.drop (o + 0 + cs.length)).toArray := by simp [splice]
  rw [e]
  unfold Builtin.copy_
  simp [run_underlying entsTy, Builtin.lenOf, hz, hf, hst]
theorem blk_setRow {w : World} {g : Nat} {cur cs : Array Value} {t : TypeId} (h : Blk w g cur t) : Blk (w.setRow g cs) g cs t := setRow_heap w g cur cs t (0, 0) h
theorem grown_setRow (w : World) (g : Nat) (cs : Array Value) : w.grownBy (w.setRow g cs) (some g) := ⟨rfl, rfl, rfl, by simp [World.setRow], fun k hk hne => setRow_other w g k cs (fun e => hne (by rw [e]))⟩

/-- .. as one step of a region that draws. -/
theorem step_copyE {ops : Array Oper} {o : Oper} {a : Act} {w : World} {K : Act → World → Prop} {Q : Exit → Act → World → Prop} {E : Prop}
    (hg : o.guard = none) (d x : Operand) (dT sT : TypeId) (hop : o.op = Op.call { callee := Callee.builtin Builtin.copy, args := #[d, x], argTypes := #[dT, sT] })
    (v u : Value) (hd : a.eval d = v) (hx : a.eval x = u) {v' : Value} {w' : World} (hr : (Builtin.copy_ #[dT, sT] o.type #[v, u]).run Try.prog w = .ok v' w') (hK : K (a.put o.dst v') w') :
    if Region.wanted o (yielded ops a.tmps) = true then Oper.wp Try.prog o a w K Q else E := by
  rw [if_pos (by simp [Region.wanted, hg])]
  unfold Oper.wp
  simp [execOp, hop, resolve, invoke, builtin, hd, hx, hr, Result.andThen]
  exact hK

/-! ### rows and their blocks -/
theorem EOwn.open {base : Nat} {w : World} {v : Value} {l : List En} (h : EOwn base w v l) (h0 : 0 < l.length) :
    ∃ g cap cur, v = .slice (some ⟨g, 0, none⟩) l.length cap ∧ base ≤ g ∧ Blk w g cur 38 ∧ l.length ≤ cap ∧ cap ≤ maxLen ∧ cur.size = cap * 2 ∧ cur.toList.take (l.length * 2) = flatE l := by
  rcases h.1.2 with ⟨_, hn⟩ | ⟨g, cap, cur, h1, h2, h3, h4, h5, h6, h7⟩
  · omega
  · exact ⟨g, cap, cur, h1, h2, h3, h4, h5, h6, h7⟩
theorem EOwn.of_blk {base g cap : Nat} {w : World} {cur : Array Value} {l : List En} (hb : base ≤ g) (hB : Blk w g cur 38) (hn : l.length ≤ cap) (hc : cap ≤ maxLen) (hs : cur.size = cap * 2) (ht : cur.toList.take (l.length * 2) = flatE l) (hw : ∀ r ∈ l, r.Wf) :
    EOwn base w (.slice (some ⟨g, 0, none⟩) l.length cap) l :=
  ⟨⟨flatE_length l, .inr ⟨g, cap, cur, rfl, hb, hB, hn, hc, hs, ht⟩⟩, hw⟩
theorem flatE_take (l : List En) (k : Nat) : flatE (l.take k) = (flatE l).take (k * 2) := by
  induction l generalizing k with
  | nil => simp [flatE]
  | cons x t ih =>
    cases k with
    | zero => simp [flatE]
    | succ k =>
      rw [List.take_succ_cons, flatE_cons, flatE_cons, ih, List.take_append, show (En.cells x).length = 2 from rfl, show (k + 1) * 2 - 2 = k * 2 by omega]
      rw [List.take_of_length_le (show (En.cells x).length ≤ (k + 1) * 2 by show 2 ≤ _; omega)]
theorem flatE_drop (l : List En) (k : Nat) : flatE (l.drop k) = (flatE l).drop (k * 2) := by
  induction l generalizing k with
  | nil => simp [flatE]
  | cons x t ih =>
    cases k with
    | zero => simp
    | succ k =>
      rw [List.drop_succ_cons, flatE_cons, ih, List.drop_append, show (En.cells x).length = 2 from rfl, show (k + 1) * 2 - 2 = k * 2 by omega]
      rw [List.drop_of_length_le (show (En.cells x).length ≤ (k + 1) * 2 by show 2 ≤ _; omega), List.nil_append]
/-- A row in one block reads. -/
theorem erow_blk {w : World} {g : Nat} {cur : Array Value} {t : TypeId} {l : List En} {n c : Nat} (hB : Blk w g cur t) (hl : l.length = n) (hn : n ≤ c) (hc : c ≤ maxLen) (ht : cur.toList.take (n * 2) = flatE l) (hw : ∀ r ∈ l, r.Wf) : ERow w (.slice (some ⟨g, 0, none⟩) n c) l := by
  subst hl
  refine ⟨⟨_, c, rfl, hn, hc, by simp, fun a ha i x hx j u hu => ?_⟩, hw⟩
  obtain rfl := Option.some.inj ha
  have hj : j < 2 := by have := (List.getElem?_eq_some_iff.1 hu).1; simpa [En.cells] using this
  have hi := (List.getElem?_eq_some_iff.1 hx).1
  rw [Addr.add_lit, Nat.zero_add, hB.cell, ← Array.getElem?_toList]
  have := flatE_at hx j hj
  rw [← ht, List.getElem?_take_of_lt (by omega)] at this
  rw [this, hu]

theorem splice_shift {α : Type} (L F1 F2 X : List α) (hL : L.take (F1.length + F2.length) = F1 ++ F2) (hlen : F1.length + X.length + F2.length ≤ L.length) :
    splice (splice L (F1.length + X.length) F2) F1.length X = F1 ++ (X ++ (F2 ++ L.drop (F1.length + X.length + F2.length))) := by
  have e1 : L.take F1.length = F1 := by
    have : (L.take (F1.length + F2.length)).take F1.length = F1 := by rw [hL]; simp
    rwa [List.take_take, Nat.min_eq_left (by omega)] at this
  have e2 : (splice L (F1.length + X.length) F2).take F1.length = F1 := by
    unfold splice
    rw [List.take_append_of_le_length (by rw [List.length_take]; omega), List.take_take, Nat.min_eq_left (by omega), e1]
  have e3 : (splice L (F1.length + X.length) F2).drop (F1.length + X.length) = F2 ++ L.drop (F1.length + X.length + F2.length) := by
    unfold splice
    rw [List.drop_append_of_le_length (by rw [List.length_take]; omega), List.drop_of_length_le (by rw [List.length_take]; omega), List.nil_append]
  show (splice L (F1.length + X.length) F2).take F1.length ++ (X ++ (splice L (F1.length + X.length) F2).drop (F1.length + X.length)) = _
  rw [e2, e3]
theorem splice_fill {α : Type} (Z F1 F2 X : List α) (hZ : Z.take F1.length = F1) (hlen : F1.length + X.length + F2.length ≤ Z.length) :
    splice (splice Z F1.length X) (F1.length + X.length) F2 = F1 ++ (X ++ (F2 ++ Z.drop (F1.length + X.length + F2.length))) := by
  have e2 : (splice Z F1.length X).take (F1.length + X.length) = F1 ++ X := by
    unfold splice
    rw [hZ, ← List.append_assoc, List.take_append_of_le_length (by simp), List.take_of_length_le (by simp)]
  have e3 : (splice Z F1.length X).drop (F1.length + X.length + F2.length) = Z.drop (F1.length + X.length + F2.length) := by
    unfold splice
    rw [hZ, ← List.append_assoc, List.drop_append, List.drop_of_length_le (by simp), List.nil_append, List.drop_drop, List.length_append]
    congr 1
    omega
  show (splice Z F1.length X).take (F1.length + X.length) ++ (F2 ++ (splice Z F1.length X).drop (F1.length + X.length + F2.length)) = _
  rw [e2, e3, List.append_assoc]
end Go.Proofs.Ytlfodhffecadoaa
