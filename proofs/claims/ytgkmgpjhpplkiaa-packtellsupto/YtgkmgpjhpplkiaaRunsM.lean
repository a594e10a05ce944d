/-
  Rows of runs in memory: those that are read, those that the call owns; append to them, and a count that is set.
-/
import Derived.Test.YtgkmgpjhpplkiaaRunsP
import Derived.Test.YtgkmgpjhpplkiaaBlk
import Derived.Test.YtgkmgpjhpplkiaaOpen
import Derived.Test.YtgkmgpjhpplkiaaCore
namespace Go.Proofs.Ytgkmgpjhpplkiaa
open Go.RowKit
set_option linter.unusedVariables false

def Rn.cells (r : Rn) : List Value := [.int .i64 r.f, .int .i64 r.a, .int .i64 r.n]
def Rn.val (r : Rn) : Value := .agg #[.int .i64 r.f, .int .i64 r.a, .int .i64 r.n]
structure Rn.Wf (r : Rn) : Prop where
  f : (Lit.int .i64 r.f).wf = true
  a : (Lit.int .i64 r.a).wf = true
  n : (Lit.int .i64 r.n).wf = true
theorem Rn.wf_of (r : Rn) (h : withinS r = true) : r.Wf := by
  have := within_iff.1 h
  exact ⟨wf_i64 (by omega) (by omega), wf_i64 (by omega) (by omega), wf_i64 (by omega) (by omega)⟩
def flatR (l : List Rn) : List Value := l.flatMap Rn.cells
theorem flatR_nil : flatR [] = [] := rfl
theorem flatR_cons (r : Rn) (l : List Rn) : flatR (r :: l) = r.cells ++ flatR l := rfl
theorem flatR_append (l m : List Rn) : flatR (l ++ m) = flatR l ++ flatR m := by simp [flatR]
theorem flatR_length (l : List Rn) : (flatR l).length = l.length * 3 := by
  induction l with
  | nil => rfl
  | cons r t ih => rw [flatR_cons, List.length_append, ih, List.length_cons]; simp [Rn.cells]; omega
theorem flatR_at {l : List Rn} {i : Nat} {r : Rn} (h : l[i]? = some r) (j : Nat) (hj : j < 3) : (flatR l)[i * 3 + j]? = r.cells[j]? := by
  induction l generalizing i with
  | nil => simp at h
  | cons x t ih =>
    rw [flatR_cons]
    cases i with
    | zero =>
      simp at h
      subst h
      rw [List.getElem?_append_left (by simp [Rn.cells]; omega)]
      simp
    | succ i =>
      rw [List.getElem?_append_right (by simp [Rn.cells]; omega)]
      simp at h
      rw [← ih h]
      congr 1
      simp [Rn.cells]
      omega
theorem flatR_get {l : List Rn} {j : Nat} {u : Value} (h : (flatR l)[j]? = some u) : ∃ i c r, j = i * 3 + c ∧ c < 3 ∧ l[i]? = some r ∧ r.cells[c]? = some u := by
  have hj : j < l.length * 3 := by rw [← flatR_length]; exact (List.getElem?_eq_some_iff.1 h).1
  have hi : j / 3 < l.length := by omega
  refine ⟨j / 3, j % 3, l[j / 3], by omega, by omega, List.getElem?_eq_getElem hi, ?_⟩
  rw [← flatR_at (List.getElem?_eq_getElem hi) (j % 3) (by omega), ← h]
  congr 1
  omega
theorem flatR_one (l : List Rn) : ∀ u ∈ flatR l, u.oneCell' = true := by
  intro u hu
  obtain ⟨r, _, hr⟩ := List.mem_flatMap.1 hu
  simp [Rn.cells] at hr
  rcases hr with rfl | rfl | rfl <;> rfl

/-- The slice v reads these runs. -/
def RRow (w : World) (v : Value) (l : List Rn) : Prop := Seq w 3 Rn.cells v l ∧ ∀ r ∈ l, r.Wf
theorem RRow.len {w : World} {v : Value} {l : List Rn} (h : RRow w v l) : l.length ≤ maxLen := h.1.len
theorem RRow.of_len {w : World} {v : Value} {l : List Rn} (h : RRow w v l) : ∃ ao cap, v = .slice ao l.length cap := h.1.of_len
theorem RRow.nil (w : World) : RRow w (.slice none 0 0) [] := ⟨⟨none, 0, rfl, Nat.le_refl _, Nat.zero_le _, fun _ => rfl, fun a h => by cases h⟩, fun r h => by cases h⟩
theorem RRow.below {w w' : World} {v : Value} {l : List Rn} (h : RRow w v l) (hb : Below w.heap.size w w') : RRow w' v l := by
  obtain ⟨⟨ao, cap, hv, h1, h2, h3, h4⟩, hw⟩ := h
  exact ⟨⟨ao, cap, hv, h1, h2, h3, fun a ha i x hx j u hu => (hb.cell (World.block_lt_of_cell? w _ (h4 a ha i x hx j u hu))).trans (h4 a ha i x hx j u hu)⟩, hw⟩
theorem runsTy : Try.prog.underlying 34 = some (.slice (Try.prog.elem 34)) := Try.underlying34
theorem sizeRn (w : World) : (sizeOf (Try.prog.elem 34)).run Try.prog w = .ok 3 w := by kernel_rfl
theorem RRow.lenRun {w : World} {v : Value} {l : List Rn} (h : RRow w v l) (w' : World) (ty : TypeId) : (Builtin.len_ #[34] ty #[v]).run Try.prog w' = .ok (.int .i64 l.length) w' := by
  obtain ⟨ao, cap, rfl⟩ := h.of_len
  simp [Builtin.len_, run_underlying runsTy, goInt]
/-- 'l[k]': where it lies. -/
theorem RRow.idx {w : World} {v : Value} {l : List Rn} (h : RRow w v l) (k : Nat) (hk : k < l.length) :
    ∃ (b o : Nat), b < w.heap.size ∧ (∀ w', (Instr.indexAt 34 v (.int .i64 k)).run Try.prog w' = .ok (.pointer (some ⟨b, o, none⟩)) w') ∧
      w.cell? ⟨b, o, none⟩ = some (.int .i64 (l.getD k default).f) ∧ w.cell? ⟨b, o + 1, none⟩ = some (.int .i64 (l.getD k default).a) ∧ w.cell? ⟨b, o + 2, none⟩ = some (.int .i64 (l.getD k default).n) := by
  obtain ⟨b, off, cap, rfl, hlt, hc⟩ := h.1.at (by omega) (by intro x; simp [Rn.cells])
  have e : l[k]? = some (l.getD k default) := by simp [List.getD, List.getElem?_eq_getElem hk]
  have c0 := hc k _ e 0 _ rfl
  have c1 := hc k _ e 1 _ rfl
  have c2 := hc k _ e 2 _ rfl
  refine ⟨b, off + k * 3, hlt, fun w' => ?_, by simpa using c0, c1, c2⟩
  rw [run_indexAt_slice _ _ _ _ _ _ _ runsTy]
  simp [sizeRn, Result.andThen, hk, Addr.add_lit]

/-- A row of runs that the call owns. -/
def ROwn (base : Nat) (w : World) (v : Value) (l : List Rn) : Prop := w.ownsRow base 67 3 v l.length (flatR l) ∧ ∀ r ∈ l, r.Wf
theorem ROwn.nil (base : Nat) (w : World) : ROwn base w (.slice none 0 0) [] := ⟨World.ownsRow_nil _ _ _ _, fun r h => by cases h⟩
theorem ROwn.row {base : Nat} {w : World} {v : Value} {l : List Rn} (h : ROwn base w v l) : RRow w v l := by
  refine ⟨?_, h.2⟩
  rcases h.1.2 with ⟨rfl, hn⟩ | ⟨g, cap, cur, rfl, hbg, hg, hnc, hcm, hcs, htake⟩
  · have : l = [] := List.eq_nil_of_length_eq_zero hn
    subst this; exact (RRow.nil w).1
  · refine ⟨_, cap, rfl, hnc, hcm, by simp, ?_⟩
    intro a ha i r hr j u hu
    obtain rfl := Option.some.inj ha
    have hj : j < 3 := by have := (List.getElem?_eq_some_iff.1 hu).1; simpa [Rn.cells] using this
    exact h.1.cells (g := g) rfl _ u (by rw [flatR_at hr j hj]; exact hu)
theorem ROwn.block {base : Nat} {w : World} {v : Value} {l : List Rn} (h : ROwn base w v l) : ∀ k, v.ownBlock = some k → base ≤ k ∧ k < w.heap.size := h.1.lt
theorem ROwn.kept {base : Nat} {w w' : World} {v : Value} {l : List Rn} (h : ROwn base w v l) (hb : Below w.heap.size w w') : ROwn base w' v l :=
  ⟨h.1.kept (row := none) ⟨hb.os, hb.tape, hb.output, hb.size, fun k hk _ => hb.block k hk⟩ (by cases hv : v.ownBlock <;> simp), h.2⟩
theorem ROwn.grown {base : Nat} {w w' : World} {v : Value} {l : List Rn} {r : Option Nat} (h : ROwn base w v l) (hg : w.grownBy w' r) (hr : ∀ k, r = some k → k < base) : ROwn base w' v l := by
  refine ⟨h.1.kept hg ?_, h.2⟩
  cases hv : v.ownBlock with
  | none => exact .inl rfl
  | some k =>
    right
    intro e
    have h1 := (h.block k hv).1
    have h2 := hr k e.symm
    omega
theorem ROwn.alloc {base : Nat} {w : World} {v : Value} {l : List Rn} (h : ROwn base w v l) (o : Obj) : ROwn base (w.alloc o) v l := ⟨h.1.alloc o, h.2⟩
theorem ROwn.mono {base base' : Nat} {w : World} {v : Value} {l : List Rn} (h : ROwn base w v l) (hb : base' ≤ base) : ROwn base' w v l := by
  refine ⟨⟨h.1.1, ?_⟩, h.2⟩
  rcases h.1.2 with hn | ⟨g, cap, cur, hv, hbg, r⟩
  · exact .inl hn
  · exact .inr ⟨g, cap, cur, hv, Nat.le_trans hb hbg, r⟩
theorem ROwn.grown_below {base B : Nat} {w0 w w' : World} {v : Value} {l : List Rn} (h : ROwn base w v l) (hb : Below B w0 w) (hg : w.grownBy w' v.ownBlock) (hB : B ≤ base) (hs : B ≤ w.heap.size) : Below B w0 w' :=
  hb.grown hg hs (fun k e => Nat.le_trans hB (h.block k e).1)
/-- A row that is not empty, written out. -/
theorem ROwn.form {base : Nat} {w : World} {v : Value} {l : List Rn} (h : ROwn base w v l) (h0 : 0 < l.length) : ∃ g cap, v = .slice (some ⟨g, 0, none⟩) l.length cap ∧ base ≤ g ∧ g < w.heap.size ∧ l.length ≤ cap := by
  rcases h.1.2 with ⟨_, hn⟩ | ⟨g, cap, cur, hv, hbg, hg, hnc, hcm, hcs, htake⟩
  · omega
  · exact ⟨g, cap, hv, hbg, (h.1.lt g (by rw [hv]; rfl)).2, hnc⟩
theorem ROwn.cellAt {base : Nat} {w : World} {g n cap : Nat} {l : List Rn} (h : ROwn base w (.slice (some ⟨g, 0, none⟩) n cap) l) (hn : l.length = n) (i : Nat) (r : Rn) (hr : l[i]? = some r) (j : Nat) (hj : j < 3) : w.cell? ⟨g, i * 3 + j, none⟩ = r.cells[j]? := by
  subst hn
  have hi : i < l.length := (List.getElem?_eq_some_iff.1 hr).1
  rw [h.1.cellAt _ (by omega), flatR_at hr j hj]
theorem ROwn.frozenAt {base : Nat} {w : World} {g n cap : Nat} {l : List Rn} (h : ROwn base w (.slice (some ⟨g, 0, none⟩) n cap) l) (hn : l.length = n) (j : Nat) : w.frozen? ⟨g, j, none⟩ = false := by
  subst hn
  exact h.1.frozenAt j
theorem flatR_set {l : List Rn} {i j : Nat} {r r' : Rn} {u : Value} (hr : l[i]? = some r) (hj : j < 3) (hu : r.cells.set j u = r'.cells) : (flatR l).set (i * 3 + j) u = flatR (l.set i r') := by
  induction l generalizing i with
  | nil => simp at hr
  | cons x t ih =>
    cases i with
    | zero =>
      simp at hr
      subst hr
      rw [List.set_cons_zero, flatR_cons, flatR_cons, List.set_append_left _ _ (by simp [Rn.cells]; omega)]
      simp [hu]
    | succ i =>
      simp at hr
      rw [List.set_cons_succ, flatR_cons, flatR_cons, List.set_append_right _ _ (by simp [Rn.cells]; omega), ← ih hr]
      congr 2
      simp [Rn.cells]
      omega
/-- A field of a run is set. -/
theorem ROwn.stored {base : Nat} {w : World} {g n cap : Nat} {l : List Rn} (h : ROwn base w (.slice (some ⟨g, 0, none⟩) n cap) l) (hn : l.length = n) (i j : Nat) (r r' : Rn) (u : Value) (hr : l[i]? = some r) (hj : j < 3) (hu : r.cells.set j u = r'.cells) (hw : r'.Wf) :
    ROwn base (w.setCell ⟨g, i * 3 + j, none⟩ u) (.slice (some ⟨g, 0, none⟩) n cap) (l.set i r') := by
  subst hn
  refine ⟨?_, ?_⟩
  · have := (h.1.stored (i * 3 + j) u).1
    rw [List.length_set]
    rwa [flatR_set hr hj hu] at this
  · intro x hx
    rcases List.mem_or_eq_of_mem_set hx with h' | rfl
    · exact h.2 x h'
    · exact hw

theorem infoRn : (Try.prog.info? 67).map (fun i => (i.zero, i.size, i.bytes)) = some (some (.agg #[.int .i64 0, .int .i64 0, .int .i64 0]), 3, 24) := by kernel_rfl
/-- append of a row of runs, whatever it is, to one that the call owns. -/
theorem wpList_append_runs {w : World} {ops : Array Oper} {rest : List Oper} {o : Oper} {a : Act} {Q : Exit → Act → World → Prop} (hgd : o.guard = none) (s x : Operand)
    (ho : o.op = .call { callee := .builtin .append, args := #[s, x], argTypes := #[34, 34] })
    (base : Nat) (v xv : Value) (xs ys : List Rn) (hs : a.eval s = v) (hown : ROwn base w v xs) (hx : a.eval x = xv) (hrow : RRow w xv ys) (hfit : xs.length + ys.length ≤ 1000000000000) (hbase : base ≤ w.heap.size)
    (h : ∀ v' w', ROwn base w' v' (xs ++ ys) → w.grownBy w' v.ownBlock → wpList Try.prog ops Q rest (a.put o.dst v') w') : wpList Try.prog ops Q (o :: rest) a w := by
  obtain ⟨i0, hi, hz0, hz1, hz2⟩ := info_parts infoRn
  obtain ⟨⟨ao, cap, rfl, h1, h2, h3, h4⟩, hb⟩ := hrow
  cases ao with
  | none =>
    have hc0 := h3 rfl
    have hl0 : ys = [] := List.eq_nil_of_length_eq_zero (by omega)
    subst hc0
    subst hl0
    refine wpList_append_own_none hgd s x 34 ho base 67 i0 3 Try.underlying34 hi v _ _ hs hown.1 hx ?_
    exact h v w (by rw [List.append_nil]; exact hown) (World.grownBy.refl _ _)
  | some ad =>
    refine wpList_append_own w hgd s x 34 ho base 67 i0 (.agg #[.int .i64 0, .int .i64 0, .int .i64 0]) 3 24 Try.underlying34 hi hz0 hz1 hz2 rfl (by decide) v _ _ hs hown.1 ad ys.length cap (flatR ys) hx (flatR_length ys) (fun j u hu => by
      obtain ⟨i, c, r, rfl, _, hr, hc⟩ := flatR_get hu
      exact h4 ad rfl i r hr c u hc) (flatR_one ys) (by unfold maxLen; omega) (by omega) hbase ?_
    intro v' w' ho' hg' _
    refine h v' w' ⟨by rw [List.length_append, flatR_append]; exact ho', ?_⟩ hg'
    intro n hn
    rcases List.mem_append.1 hn with h' | h'
    · exact hown.2 n h'
    · exact hb n h'
/-- Runs in a new block. -/
theorem runs_new (w : World) (l : List Rn) (cs : Array Value) (t : TypeId) (n : Nat) (hn : l.length = n) (hcs : cs.toList = flatR l) (hm : l.length ≤ 1000000) (hw : ∀ r ∈ l, r.Wf) : RRow (w.alloc (.cells cs t)) (.slice (some ⟨w.heap.size, 0, none⟩) n n) l := by
  subst hn
  refine ⟨⟨_, l.length, rfl, Nat.le_refl _, by unfold maxLen; omega, by simp, fun a ha i r hr j u hu => ?_⟩, hw⟩
  obtain rfl := Option.some.inj ha
  have hj : j < 3 := by have := (List.getElem?_eq_some_iff.1 hu).1; simpa [Rn.cells] using this
  rw [Addr.add_lit]
  have := (Blk.new w cs t).cell (0 + (i * 3 + j))
  rw [this, Nat.zero_add, ← Array.getElem?_toList, hcs, flatR_at hr j hj, hu]
end Go.Proofs.Ytgkmgpjhpplkiaa
