/-
  Rows of entries in memory: those that are read, those that the call owns; append to them; what lies in an owned one's block.
-/
import Derived.Test.YtgkmgpjhpplkiaaEntP
import Derived.Test.YtgkmgpjhpplkiaaHoldL
import Derived.Test.YtgkmgpjhpplkiaaOpen
import Derived.Test.YtgkmgpjhpplkiaaCore
import Derived.Laws.CopyRow
namespace Go.Proofs.Ytgkmgpjhpplkiaa
open Go.RowKit
set_option linter.unusedVariables false

def En.cells (r : En) : List Value := [.string r.s, .int .i64 r.n]
def En.val (r : En) : Value := .agg #[.string r.s, .int .i64 r.n]
structure En.Wf (r : En) : Prop where
  s : r.s.size ≤ maxLen
  n : (Lit.int .i64 r.n).wf = true
def flatE (l : List En) : List Value := l.flatMap En.cells
theorem flatE_nil : flatE [] = [] := rfl
theorem flatE_cons (r : En) (l : List En) : flatE (r :: l) = r.cells ++ flatE l := rfl
theorem flatE_append (l m : List En) : flatE (l ++ m) = flatE l ++ flatE m := by simp [flatE]
theorem flatE_length (l : List En) : (flatE l).length = l.length * 2 := by
  induction l with
  | nil => rfl
  | cons r t ih => rw [flatE_cons, List.length_append, ih, List.length_cons]; simp [En.cells]; omega
theorem flatE_at {l : List En} {i : Nat} {r : En} (h : l[i]? = some r) (j : Nat) (hj : j < 2) : (flatE l)[i * 2 + j]? = r.cells[j]? := by
  induction l generalizing i with
  | nil => simp at h
  | cons x t ih =>
    rw [flatE_cons]
    cases i with
    | zero =>
      simp at h
      subst h
      rw [List.getElem?_append_left (by simp [En.cells]; omega)]
      simp
    | succ i =>
      rw [List.getElem?_append_right (by simp [En.cells]; omega)]
      simp at h
      rw [← ih h]
      congr 1
      simp [En.cells]
      omega
theorem flatE_get {l : List En} {j : Nat} {u : Value} (h : (flatE l)[j]? = some u) : ∃ i c r, j = i * 2 + c ∧ c < 2 ∧ l[i]? = some r ∧ r.cells[c]? = some u := by
  have hj : j < l.length * 2 := by rw [← flatE_length]; exact (List.getElem?_eq_some_iff.1 h).1
  have hi : j / 2 < l.length := by omega
  refine ⟨j / 2, j % 2, l[j / 2], by omega, by omega, List.getElem?_eq_getElem hi, ?_⟩
  rw [← flatE_at (List.getElem?_eq_getElem hi) (j % 2) (by omega), ← h]
  congr 1
  omega
theorem flatE_one (l : List En) : ∀ u ∈ flatE l, u.oneCell' = true := by
  intro u hu
  obtain ⟨r, _, hr⟩ := List.mem_flatMap.1 hu
  simp [En.cells] at hr
  rcases hr with rfl | rfl <;> rfl

/-- The slice v reads these entries. -/
def ERow (w : World) (v : Value) (l : List En) : Prop := Seq w 2 En.cells v l ∧ ∀ r ∈ l, r.Wf
theorem ERow.len {w : World} {v : Value} {l : List En} (h : ERow w v l) : l.length ≤ maxLen := h.1.len
theorem ERow.of_len {w : World} {v : Value} {l : List En} (h : ERow w v l) : ∃ ao cap, v = .slice ao l.length cap := h.1.of_len
theorem ERow.nil (w : World) : ERow w (.slice none 0 0) [] := ⟨⟨none, 0, rfl, Nat.le_refl _, Nat.zero_le _, fun _ => rfl, fun a h => by cases h⟩, fun r h => by cases h⟩
theorem ERow.below {w w' : World} {v : Value} {l : List En} (h : ERow w v l) (hb : Below w.heap.size w w') : ERow w' v l := by
  obtain ⟨⟨ao, cap, hv, h1, h2, h3, h4⟩, hw⟩ := h
  exact ⟨⟨ao, cap, hv, h1, h2, h3, fun a ha i x hx j u hu => (hb.cell (World.block_lt_of_cell? w _ (h4 a ha i x hx j u hu))).trans (h4 a ha i x hx j u hu)⟩, hw⟩
theorem entsTy : Try.prog.underlying 33 = some (.slice (Try.prog.elem 33)) := Try.underlying33
theorem sizeEn (w : World) : (sizeOf (Try.prog.elem 33)).run Try.prog w = .ok 2 w := by kernel_rfl
theorem ERow.lenRun {w : World} {v : Value} {l : List En} (h : ERow w v l) (w' : World) (ty : TypeId) : (Builtin.len_ #[33] ty #[v]).run Try.prog w' = .ok (.int .i64 l.length) w' := by
  obtain ⟨ao, cap, rfl⟩ := h.of_len
  simp [Builtin.len_, run_underlying entsTy, goInt]
/-- 'l[k]': where it lies. -/
theorem ERow.idx {w : World} {v : Value} {l : List En} (h : ERow w v l) (k : Nat) (hk : k < l.length) :
    ∃ (b o : Nat), b < w.heap.size ∧ (∀ w', (Instr.indexAt 33 v (.int .i64 k)).run Try.prog w' = .ok (.pointer (some ⟨b, o, none⟩)) w') ∧
      w.cell? ⟨b, o, none⟩ = some (.string (l.getD k default).s) ∧ w.cell? ⟨b, o + 1, none⟩ = some (.int .i64 (l.getD k default).n) := by
  obtain ⟨b, off, cap, rfl, hlt, hc⟩ := h.1.at (by omega) (by intro x; simp [En.cells])
  have e : l[k]? = some (l.getD k default) := by simp [List.getD, List.getElem?_eq_getElem hk]
  have c0 := hc k _ e 0 _ rfl
  have c1 := hc k _ e 1 _ rfl
  refine ⟨b, off + k * 2, hlt, fun w' => ?_, by simpa using c0, c1⟩
  rw [run_indexAt_slice _ _ _ _ _ _ _ entsTy]
  simp [sizeEn, Result.andThen, hk, Addr.add_lit]

/-- A row of entries that the call owns. -/
def EOwn (base : Nat) (w : World) (v : Value) (l : List En) : Prop := w.ownsRow base 49 2 v l.length (flatE l) ∧ ∀ r ∈ l, r.Wf
theorem EOwn.nil (base : Nat) (w : World) : EOwn base w (.slice none 0 0) [] := ⟨World.ownsRow_nil _ _ _ _, fun r h => by cases h⟩
theorem EOwn.row {base : Nat} {w : World} {v : Value} {l : List En} (h : EOwn base w v l) : ERow w v l := by
  refine ⟨?_, h.2⟩
  rcases h.1.2 with ⟨rfl, hn⟩ | ⟨g, cap, cur, rfl, hbg, hg, hnc, hcm, hcs, htake⟩
  · have : l = [] := List.eq_nil_of_length_eq_zero hn
    subst this; exact (ERow.nil w).1
  · refine ⟨_, cap, rfl, hnc, hcm, by simp, ?_⟩
    intro a ha i r hr j u hu
    obtain rfl := Option.some.inj ha
    have hj : j < 2 := by have := (List.getElem?_eq_some_iff.1 hu).1; simpa [En.cells] using this
    exact h.1.cells (g := g) rfl _ u (by rw [flatE_at hr j hj]; exact hu)
theorem EOwn.block {base : Nat} {w : World} {v : Value} {l : List En} (h : EOwn base w v l) : ∀ k, v.ownBlock = some k → base ≤ k ∧ k < w.heap.size := h.1.lt
theorem EOwn.kept {base : Nat} {w w' : World} {v : Value} {l : List En} (h : EOwn base w v l) (hb : Below w.heap.size w w') : EOwn base w' v l :=
  ⟨h.1.kept (row := none) ⟨hb.os, hb.tape, hb.output, hb.size, fun k hk _ => hb.block k hk⟩ (by cases hv : v.ownBlock <;> simp), h.2⟩
theorem EOwn.grown {base : Nat} {w w' : World} {v : Value} {l : List En} {r : Option Nat} (h : EOwn base w v l) (hg : w.grownBy w' r) (hr : ∀ k, r = some k → k < base) : EOwn base w' v l := by
  refine ⟨h.1.kept hg ?_, h.2⟩
  cases hv : v.ownBlock with
  | none => exact .inl rfl
  | some k =>
    right
    intro e
    have h1 := (h.block k hv).1
    have h2 := hr k e.symm
    omega
theorem EOwn.alloc {base : Nat} {w : World} {v : Value} {l : List En} (h : EOwn base w v l) (o : Obj) : EOwn base (w.alloc o) v l := ⟨h.1.alloc o, h.2⟩
theorem EOwn.mono {base base' : Nat} {w : World} {v : Value} {l : List En} (h : EOwn base w v l) (hb : base' ≤ base) : EOwn base' w v l := by
  refine ⟨⟨h.1.1, ?_⟩, h.2⟩
  rcases h.1.2 with hn | ⟨g, cap, cur, hv, hbg, r⟩
  · exact .inl hn
  · exact .inr ⟨g, cap, cur, hv, Nat.le_trans hb hbg, r⟩
theorem EOwn.grown_below {base B : Nat} {w0 w w' : World} {v : Value} {l : List En} (h : EOwn base w v l) (hb : Below B w0 w) (hg : w.grownBy w' v.ownBlock) (hB : B ≤ base) (hs : B ≤ w.heap.size) : Below B w0 w' :=
  hb.grown hg hs (fun k e => Nat.le_trans hB (h.block k e).1)
/-- A row that is not empty, written out. -/
theorem EOwn.form {base : Nat} {w : World} {v : Value} {l : List En} (h : EOwn base w v l) (h0 : 0 < l.length) : ∃ g cap, v = .slice (some ⟨g, 0, none⟩) l.length cap ∧ base ≤ g ∧ g < w.heap.size ∧ l.length ≤ cap := by
  rcases h.1.2 with ⟨_, hn⟩ | ⟨g, cap, cur, hv, hbg, hg, hnc, hcm, hcs, htake⟩
  · omega
  · exact ⟨g, cap, hv, hbg, (h.1.lt g (by rw [hv]; rfl)).2, hnc⟩
theorem EOwn.cellAt {base : Nat} {w : World} {g n cap : Nat} {l : List En} (h : EOwn base w (.slice (some ⟨g, 0, none⟩) n cap) l) (hn : l.length = n) (i : Nat) (r : En) (hr : l[i]? = some r) (j : Nat) (hj : j < 2) : w.cell? ⟨g, i * 2 + j, none⟩ = r.cells[j]? := by
  subst hn
  have hi : i < l.length := (List.getElem?_eq_some_iff.1 hr).1
  rw [h.1.cellAt _ (by omega), flatE_at hr j hj]
theorem EOwn.frozenAt {base : Nat} {w : World} {g n cap : Nat} {l : List En} (h : EOwn base w (.slice (some ⟨g, 0, none⟩) n cap) l) (hn : l.length = n) (j : Nat) : w.frozen? ⟨g, j, none⟩ = false := by
  subst hn
  exact h.1.frozenAt j
theorem flatE_set {l : List En} {i j : Nat} {r r' : En} {u : Value} (hr : l[i]? = some r) (hj : j < 2) (hu : r.cells.set j u = r'.cells) : (flatE l).set (i * 2 + j) u = flatE (l.set i r') := by
  induction l generalizing i with
  | nil => simp at hr
  | cons x t ih =>
    cases i with
    | zero =>
      simp at hr
      subst hr
      rw [List.set_cons_zero, flatE_cons, flatE_cons, List.set_append_left _ _ (by simp [En.cells]; omega)]
      simp [hu]
    | succ i =>
      simp at hr
      rw [List.set_cons_succ, flatE_cons, flatE_cons, List.set_append_right _ _ (by simp [En.cells]; omega), ← ih hr]
      congr 2
      simp [En.cells]
      omega
/-- A field of an entry is set. -/
theorem EOwn.stored {base : Nat} {w : World} {g n cap : Nat} {l : List En} (h : EOwn base w (.slice (some ⟨g, 0, none⟩) n cap) l) (hn : l.length = n) (i j : Nat) (r r' : En) (u : Value) (hr : l[i]? = some r) (hj : j < 2) (hu : r.cells.set j u = r'.cells) (hw : r'.Wf) :
    EOwn base (w.setCell ⟨g, i * 2 + j, none⟩ u) (.slice (some ⟨g, 0, none⟩) n cap) (l.set i r') := by
  subst hn
  refine ⟨?_, ?_⟩
  · have := (h.1.stored (i * 2 + j) u).1
    rw [List.length_set]
    rwa [flatE_set hr hj hu] at this
  · intro x hx
    rcases List.mem_or_eq_of_mem_set hx with h' | rfl
    · exact h.2 x h'
    · exact hw

theorem infoEn : (Try.prog.info? 49).map (fun i => (i.zero, i.size, i.bytes)) = some (some (.agg #[.string ByteArray.empty, .int .i64 0]), 2, 24) := by kernel_rfl
/-- append of a row of entries, whatever it is, to one that the call owns. -/
theorem wpList_append_ents {w : World} {ops : Array Oper} {rest : List Oper} {o : Oper} {a : Act} {Q : Exit → Act → World → Prop} (hgd : o.guard = none) (s x : Operand)
    (ho : o.op = .call { callee := .builtin .append, args := #[s, x], argTypes := #[33, 33] })
    (base : Nat) (v xv : Value) (xs ys : List En) (hs : a.eval s = v) (hown : EOwn base w v xs) (hx : a.eval x = xv) (hrow : ERow w xv ys) (hfit : xs.length + ys.length ≤ 1000000000000) (hbase : base ≤ w.heap.size)
    (h : ∀ v' w', EOwn base w' v' (xs ++ ys) → w.grownBy w' v.ownBlock → wpList Try.prog ops Q rest (a.put o.dst v') w') : wpList Try.prog ops Q (o :: rest) a w := by
  obtain ⟨i0, hi, hz0, hz1, hz2⟩ := info_parts infoEn
  obtain ⟨⟨ao, cap, rfl, h1, h2, h3, h4⟩, hb⟩ := hrow
  cases ao with
  | none =>
    have hc0 := h3 rfl
    have hl0 : ys = [] := List.eq_nil_of_length_eq_zero (by omega)
    subst hc0
    subst hl0
    refine wpList_append_own_none hgd s x 33 ho base 49 i0 2 Try.underlying33 hi v _ _ hs hown.1 hx ?_
    exact h v w (by rw [List.append_nil]; exact hown) (World.grownBy.refl _ _)
  | some ad =>
    refine wpList_append_own w hgd s x 33 ho base 49 i0 (.agg #[.string ByteArray.empty, .int .i64 0]) 2 24 Try.underlying33 hi hz0 hz1 hz2 rfl (by decide) v _ _ hs hown.1 ad ys.length cap (flatE ys) hx (flatE_length ys) (fun j u hu => by
      obtain ⟨i, c, r, rfl, _, hr, hc⟩ := flatE_get hu
      exact h4 ad rfl i r hr c u hc) (flatE_one ys) (by unfold maxLen; omega) (by omega) hbase ?_
    intro v' w' ho' hg' _
    refine h v' w' ⟨by rw [List.length_append, flatE_append]; exact ho', ?_⟩ hg'
    intro n hn
    rcases List.mem_append.1 hn with h' | h'
    · exact hown.2 n h'
    · exact hb n h'
/-- Runs in a new block. -/
theorem ents_new (w : World) (l : List En) (cs : Array Value) (t : TypeId) (n : Nat) (hn : l.length = n) (hcs : cs.toList = flatE l) (hm : l.length ≤ 1000000) (hw : ∀ r ∈ l, r.Wf) : ERow (w.alloc (.cells cs t)) (.slice (some ⟨w.heap.size, 0, none⟩) n n) l := by
  subst hn
  refine ⟨⟨_, l.length, rfl, Nat.le_refl _, by unfold maxLen; omega, by simp, fun a ha i r hr j u hu => ?_⟩, hw⟩
  obtain rfl := Option.some.inj ha
  have hj : j < 2 := by have := (List.getElem?_eq_some_iff.1 hu).1; simpa [En.cells] using this
  rw [Addr.add_lit]
  have := (Blk.new w cs t).cell (0 + (i * 2 + j))
  rw [this, Nat.zero_add, ← Array.getElem?_toList, hcs, flatE_at hr j hj, hu]
end Go.Proofs.Ytgkmgpjhpplkiaa
