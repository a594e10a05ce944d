/-
  Rows of deeds in memory: those that are read, those that the call owns; append to them; deeds that come in.
-/
import Derived.Test.YtgkmgpjhpplkiaaPackP
import Derived.Test.YtgkmgpjhpplkiaaInoX
import Derived.Test.YtgkmgpjhpplkiaaHoldL
namespace Go.Proofs.Ytgkmgpjhpplkiaa
open Go.RowKit
set_option linter.unusedVariables false
set_option maxRecDepth 100000

theorem add_blockD (a : Addr) (n : Nat) : (a.add n).block = a.block := by unfold Addr.add; split <;> rfl
theorem ERow.past {w w' : World} {v : Value} {l : List En} {r : Option Nat} (h : ERow w v l) (hg : w.grownBy w' r) (hr : ∀ a n c, v = .slice (some a) n c → some a.block ≠ r) : ERow w' v l := by
  obtain ⟨⟨ao, cap, hv, h1, h2, h3, h4⟩, hw⟩ := h
  exact ⟨⟨ao, cap, hv, h1, h2, h3, fun a ha i x hx j u hu => hg.cell (h4 a ha i x hx j u hu) (by have := hr a l.length cap (by rw [hv, ha]); rw [add_blockD]; exact this)⟩, hw⟩
theorem RRow.past {w w' : World} {v : Value} {l : List Rn} {r : Option Nat} (h : RRow w v l) (hg : w.grownBy w' r) (hr : ∀ a n c, v = .slice (some a) n c → some a.block ≠ r) : RRow w' v l := by
  obtain ⟨⟨ao, cap, hv, h1, h2, h3, h4⟩, hw⟩ := h
  exact ⟨⟨ao, cap, hv, h1, h2, h3, fun a ha i x hx j u hu => hg.cell (h4 a ha i x hx j u hu) (by have := hr a l.length cap (by rw [hv, ha]); rw [add_blockD]; exact this)⟩, hw⟩

/-- A deed as it lies: with the slices of its inode. -/
structure Dv where
  d : Dd
  ev : Value
  rv : Value
instance : Inhabited Dv := ⟨⟨default, .slice none 0 0, .slice none 0 0⟩⟩
def Dv.cells (x : Dv) : List Value := [.int .i64 x.d.kind, .int .i64 x.d.no, .int .i64 x.d.x.no, .int .i64 x.d.x.kind, .int .i64 x.d.x.links, .int .i64 x.d.x.size, .string x.d.x.t, x.ev, x.rv]
theorem Dv.cells_len (x : Dv) : x.cells.length = 9 := rfl
structure Dv.Wf (x : Dv) : Prop where
  kind : (Lit.int .i64 x.d.kind).wf = true
  no : (Lit.int .i64 x.d.no).wf = true
  xno : (Lit.int .i64 x.d.x.no).wf = true
  xkind : (Lit.int .i64 x.d.x.kind).wf = true
  xlinks : (Lit.int .i64 x.d.x.links).wf = true
  xsize : (Lit.int .i64 x.d.x.size).wf = true
  t : x.d.x.t.size ≤ maxLen
  ev : x.ev.oneCell' = true
  rv : x.rv.oneCell' = true
def flatD (l : List Dv) : List Value := l.flatMap Dv.cells
theorem flatD_cons (r : Dv) (l : List Dv) : flatD (r :: l) = r.cells ++ flatD l := rfl
theorem flatD_append (l m : List Dv) : flatD (l ++ m) = flatD l ++ flatD m := by simp [flatD]
theorem flatD_length (l : List Dv) : (flatD l).length = l.length * 9 := by
  induction l with
  | nil => rfl
  | cons r t ih => rw [flatD_cons, List.length_append, ih, List.length_cons, Dv.cells_len]; omega
theorem flatD_at {l : List Dv} {i : Nat} {r : Dv} (h : l[i]? = some r) (j : Nat) (hj : j < 9) : (flatD l)[i * 9 + j]? = r.cells[j]? := by
  induction l generalizing i with
  | nil => simp at h
  | cons x t ih =>
    rw [flatD_cons]
    cases i with
    | zero =>
      simp at h
      subst h
      rw [List.getElem?_append_left (by rw [Dv.cells_len]; omega)]
      simp
    | succ i =>
      rw [List.getElem?_append_right (by rw [Dv.cells_len]; omega)]
      simp at h
      rw [← ih h, Dv.cells_len]
      congr 1
      omega
theorem flatD_get {l : List Dv} {j : Nat} {u : Value} (h : (flatD l)[j]? = some u) : ∃ i c r, j = i * 9 + c ∧ c < 9 ∧ l[i]? = some r ∧ r.cells[c]? = some u := by
  have hj : j < l.length * 9 := by rw [← flatD_length]; exact (List.getElem?_eq_some_iff.1 h).1
  have hi : j / 9 < l.length := by omega
  refine ⟨j / 9, j % 9, l[j / 9], by omega, by omega, List.getElem?_eq_getElem hi, ?_⟩
  rw [← flatD_at (List.getElem?_eq_getElem hi) (j % 9) (by omega), ← h]
  congr 1
  omega
theorem flatD_one (l : List Dv) (hl : ∀ x ∈ l, x.Wf) : ∀ u ∈ flatD l, u.oneCell' = true := by
  intro u hu
  obtain ⟨r, hm, hr⟩ := List.mem_flatMap.1 hu
  have hw := hl r hm
  simp [Dv.cells] at hr
  rcases hr with rfl | rfl | rfl | rfl | rfl | rfl | rfl | rfl | rfl <;> first | rfl | exact hw.ev | exact hw.rv

/-- What the slices of a deed read. -/
structure Dv.Reads (w : World) (x : Dv) : Prop where
  e : ERow w x.ev x.d.x.es
  r : RRow w x.rv x.d.x.rs
theorem Dv.Reads.below {w w' : World} {x : Dv} (h : x.Reads w) (hb : Below w.heap.size w w') : x.Reads w' := ⟨h.e.below hb, h.r.below hb⟩
/-- The slice v reads these deeds. -/
def DRow (w : World) (v : Value) (l : List Dv) : Prop := (Seq w 9 Dv.cells v l ∧ ∀ x ∈ l, x.Wf) ∧ ∀ x ∈ l, x.Reads w
theorem DRow.len {w : World} {v : Value} {l : List Dv} (h : DRow w v l) : l.length ≤ maxLen := h.1.1.len
theorem DRow.of_len {w : World} {v : Value} {l : List Dv} (h : DRow w v l) : ∃ ao cap, v = .slice ao l.length cap := h.1.1.of_len
theorem DRow.nil (w : World) : DRow w (.slice none 0 0) [] := ⟨⟨⟨none, 0, rfl, Nat.le_refl _, Nat.zero_le _, fun _ => rfl, fun a h => by cases h⟩, fun r h => by cases h⟩, fun r h => by cases h⟩
theorem DRow.below {w w' : World} {v : Value} {l : List Dv} (h : DRow w v l) (hb : Below w.heap.size w w') : DRow w' v l := by
  obtain ⟨⟨⟨ao, cap, hv, h1, h2, h3, h4⟩, hw⟩, hd⟩ := h
  exact ⟨⟨⟨ao, cap, hv, h1, h2, h3, fun a ha i x hx j u hu => (hb.cell (World.block_lt_of_cell? w _ (h4 a ha i x hx j u hu))).trans (h4 a ha i x hx j u hu)⟩, hw⟩, fun x hx => (hd x hx).below hb⟩
theorem deedsTy : Try.prog.underlying 22 = some (.slice (Try.prog.elem 22)) := Try.underlying22
theorem sizeDd (w : World) : (sizeOf (Try.prog.elem 22)).run Try.prog w = .ok 9 w := by kernel_rfl
theorem DRow.lenRun {w : World} {v : Value} {l : List Dv} (h : DRow w v l) (w' : World) (ty : TypeId) : (Builtin.len_ #[22] ty #[v]).run Try.prog w' = .ok (.int .i64 l.length) w' := by
  obtain ⟨ao, cap, rfl⟩ := h.of_len
  simp [Builtin.len_, run_underlying deedsTy, goInt]
/-- 'l[k]': where it lies. -/
theorem DRow.idx {w : World} {v : Value} {l : List Dv} (h : DRow w v l) (k : Nat) (hk : k < l.length) :
    ∃ (b o : Nat), b < w.heap.size ∧ (∀ w', (Instr.indexAt 22 v (.int .i64 k)).run Try.prog w' = .ok (.pointer (some ⟨b, o, none⟩)) w') ∧
      ∀ j u, (l.getD k default).cells[j]? = some u → w.cell? ⟨b, o + j, none⟩ = some u := by
  obtain ⟨b, off, cap, rfl, hlt, hc⟩ := h.1.1.at (by omega) (by intro x; rw [Dv.cells_len]; omega)
  have e : l[k]? = some (l.getD k default) := by simp [List.getD, List.getElem?_eq_getElem hk]
  refine ⟨b, off + k * 9, hlt, fun w' => ?_, fun j u hu => hc k _ e j u hu⟩
  rw [run_indexAt_slice _ _ _ _ _ _ _ deedsTy]
  simp [sizeDd, Result.andThen, hk, Addr.add_lit]

/-- A slice lies elder than base, or in no block of deeds. -/
def Apart (base : Nat) (w : World) (v : Value) : Prop := ∀ a n c, v = .slice (some a) n c → a.block < base ∧ a.block < w.heap.size ∨ ∃ cs t fr, w.heap[a.block]? = some (.cells cs t fr) ∧ t ≠ 38
theorem Apart.nil (base : Nat) (w : World) : Apart base w (.slice none 0 0) := fun a n c h => by cases h
theorem Apart.lt {base : Nat} {w : World} {v : Value} (h : Apart base w v) (a : Addr) (n c : Nat) (e : v = .slice (some a) n c) : a.block < w.heap.size := by
  rcases h a n c e with h | ⟨cs, t, fr, h, _⟩
  · exact h.2
  · exact (Array.getElem?_eq_some_iff.1 h).1
theorem Apart.below {base : Nat} {w w' : World} {v : Value} (h : Apart base w v) (hb : Below w.heap.size w w') : Apart base w' v := fun a n c e => by
  have hl := h.lt a n c e
  rcases h a n c e with h | ⟨cs, t, fr, h, ht⟩
  · exact .inl ⟨h.1, Nat.lt_of_lt_of_le h.2 hb.size⟩
  · exact .inr ⟨cs, t, fr, (hb.block _ hl).trans h, ht⟩
theorem Apart.ne {base : Nat} {w : World} {v u : Value} {n : Nat} {xs : List Value} (h : Apart base w v) (ho : w.ownsRow base 38 9 u n xs) (a : Addr) (k c : Nat) (e : v = .slice (some a) k c) : some a.block ≠ u.ownBlock := by
  intro he
  rcases ho.2 with ⟨hn, _⟩ | ⟨g, cap, cur, hv, hbg, hh, _⟩
  · rw [hn] at he; cases he
  · rw [hv] at he
    have he' : a.block = g := by simpa [Value.ownBlock] using he
    rcases h a k c e with h | ⟨cs, t, fr, h, ht⟩
    · omega
    · rw [he', hh] at h
      simp only [Option.some.injEq, Obj.cells.injEq] at h
      exact ht h.2.1.symm
theorem Apart.grown {base : Nat} {w w' : World} {v u : Value} {n : Nat} {xs : List Value} (h : Apart base w v) (ho : w.ownsRow base 38 9 u n xs) (hg : w.grownBy w' u.ownBlock) : Apart base w' v := fun a k c e => by
  have hl := h.lt a k c e
  have hne := h.ne ho a k c e
  rcases h a k c e with h | ⟨cs, t, fr, h, ht⟩
  · exact .inl ⟨h.1, Nat.lt_of_lt_of_le h.2 hg.size⟩
  · exact .inr ⟨cs, t, fr, (hg.block _ hl hne).trans h, ht⟩

/-- So, or nothing is read there. -/
def ApartN (n : Nat) (base : Nat) (w : World) (v : Value) : Prop := n = 0 ∨ Apart base w v
theorem ApartN.below {n base : Nat} {w w' : World} {v : Value} (h : ApartN n base w v) (hb : Below w.heap.size w w') : ApartN n base w' v := h.imp id fun h => h.below hb
theorem ApartN.grown {m base : Nat} {w w' : World} {v u : Value} {n : Nat} {xs : List Value} (h : ApartN m base w v) (ho : w.ownsRow base 38 9 u n xs) (hg : w.grownBy w' u.ownBlock) : ApartN m base w' v := h.imp id fun h => h.grown ho hg
theorem ERow.elder {w : World} {v : Value} {l : List En} {base : Nat} (h : ERow w v l) (hb : w.heap.size ≤ base) : ApartN l.length base w v := by
  by_cases h0 : l = []
  · subst h0; exact .inl rfl
  · refine .inr fun a n c e => .inl ?_
    obtain ⟨b, off, cap, hv, hlt, hc⟩ := h.1.at (List.length_pos_iff.2 h0) (by intro x; simp [En.cells])
    rw [hv] at e
    simp only [Value.slice.injEq, Option.some.injEq] at e
    obtain ⟨rfl, _, _⟩ := e
    exact ⟨Nat.lt_of_lt_of_le hlt hb, hlt⟩
theorem RRow.elder {w : World} {v : Value} {l : List Rn} {base : Nat} (h : RRow w v l) (hb : w.heap.size ≤ base) : ApartN l.length base w v := by
  by_cases h0 : l = []
  · subst h0; exact .inl rfl
  · refine .inr fun a n c e => .inl ?_
    obtain ⟨b, off, cap, hv, hlt, hc⟩ := h.1.at (List.length_pos_iff.2 h0) (by intro x; simp [Rn.cells])
    rw [hv] at e
    simp only [Value.slice.injEq, Option.some.injEq] at e
    obtain ⟨rfl, _, _⟩ := e
    exact ⟨Nat.lt_of_lt_of_le hlt hb, hlt⟩
theorem ERow.any_nil {w w' : World} {v : Value} (h : ERow w v []) : ERow w' v [] := by
  obtain ⟨⟨ao, cap, hv, h1, h2, h3, h4⟩, hw⟩ := h
  exact ⟨⟨ao, cap, hv, h1, h2, h3, fun a ha i x hx => by simp at hx⟩, hw⟩
theorem RRow.any_nil {w w' : World} {v : Value} (h : RRow w v []) : RRow w' v [] := by
  obtain ⟨⟨ao, cap, hv, h1, h2, h3, h4⟩, hw⟩ := h
  exact ⟨⟨ao, cap, hv, h1, h2, h3, fun a ha i x hx => by simp at hx⟩, hw⟩
/-- A row of deeds that the call owns. -/
def DOwn (base : Nat) (w : World) (v : Value) (l : List Dv) : Prop :=
  (w.ownsRow base 38 9 v l.length (flatD l) ∧ ∀ x ∈ l, x.Wf) ∧ ∀ x ∈ l, x.Reads w ∧ ApartN x.d.x.es.length base w x.ev ∧ ApartN x.d.x.rs.length base w x.rv
theorem DOwn.nil (base : Nat) (w : World) : DOwn base w (.slice none 0 0) [] := ⟨⟨World.ownsRow_nil _ _ _ _, fun r h => by cases h⟩, fun r h => by cases h⟩
theorem DOwn.row {base : Nat} {w : World} {v : Value} {l : List Dv} (h : DOwn base w v l) : DRow w v l := by
  refine ⟨⟨?_, h.1.2⟩, fun x hx => (h.2 x hx).1⟩
  rcases h.1.1.2 with ⟨rfl, hn⟩ | ⟨g, cap, cur, rfl, hbg, hg, hnc, hcm, hcs, htake⟩
  · have : l = [] := List.eq_nil_of_length_eq_zero hn
    subst this; exact (DRow.nil w).1.1
  · refine ⟨_, cap, rfl, hnc, hcm, by simp, ?_⟩
    intro a ha i r hr j u hu
    obtain rfl := Option.some.inj ha
    have hj : j < 9 := by have := (List.getElem?_eq_some_iff.1 hu).1; simpa [Dv.cells_len] using this
    exact h.1.1.cells (g := g) rfl _ u (by rw [flatD_at hr j hj]; exact hu)
theorem DOwn.block {base : Nat} {w : World} {v : Value} {l : List Dv} (h : DOwn base w v l) : ∀ k, v.ownBlock = some k → base ≤ k ∧ k < w.heap.size := h.1.1.lt
theorem DOwn.kept {base : Nat} {w w' : World} {v : Value} {l : List Dv} (h : DOwn base w v l) (hb : Below w.heap.size w w') : DOwn base w' v l :=
  ⟨⟨h.1.1.kept (row := none) ⟨hb.os, hb.tape, hb.output, hb.size, fun k hk _ => hb.block k hk⟩ (by cases hv : v.ownBlock <;> simp), h.1.2⟩, fun x hx => ⟨(h.2 x hx).1.below hb, (h.2 x hx).2.1.below hb, (h.2 x hx).2.2.below hb⟩⟩
theorem DOwn.grown_below {base B : Nat} {w0 w w' : World} {v : Value} {l : List Dv} (h : DOwn base w v l) (hb : Below B w0 w) (hg : w.grownBy w' v.ownBlock) (hB : B ≤ base) (hs : B ≤ w.heap.size) : Below B w0 w' :=
  hb.grown hg hs (fun k e => Nat.le_trans hB (h.block k e).1)
theorem Dv.Reads.grown {base : Nat} {w w' : World} {x : Dv} {u : Value} {n : Nat} {xs : List Value} (h : x.Reads w) (ae : ApartN x.d.x.es.length base w x.ev) (ar : ApartN x.d.x.rs.length base w x.rv) (ho : w.ownsRow base 38 9 u n xs) (hg : w.grownBy w' u.ownBlock) : x.Reads w' :=
  ⟨ae.elim (fun h0 => by have e := List.eq_nil_of_length_eq_zero h0; have h1 := h.e; rw [e] at h1 ⊢; exact h1.any_nil) (fun ae => h.e.past hg (fun a k c e => ae.ne ho a k c e)),
    ar.elim (fun h0 => by have e := List.eq_nil_of_length_eq_zero h0; have h1 := h.r; rw [e] at h1 ⊢; exact h1.any_nil) (fun ar => h.r.past hg (fun a k c e => ar.ne ho a k c e))⟩

theorem infoDd : (Try.prog.info? 38).map (fun i => (i.zero, i.size, i.bytes)) = some (some (.agg #[.int .i64 0, .int .i64 0, .int .i64 0, .int .i64 0, .int .i64 0, .int .i64 0, .string ByteArray.empty, .slice none 0 0, .slice none 0 0]), 9, 112) := by kernel_rfl
/-- append of a row of deeds, whatever it is, to one that the call owns. -/
theorem wpList_append_deeds {w : World} {ops : Array Oper} {rest : List Oper} {o : Oper} {a : Act} {Q : Exit → Act → World → Prop} (hgd : o.guard = none) (s x : Operand)
    (ho : o.op = .call { callee := .builtin .append, args := #[s, x], argTypes := #[22, 22] })
    (base : Nat) (v xv : Value) (xs ys : List Dv) (hs : a.eval s = v) (hown : DOwn base w v xs) (hx : a.eval x = xv) (hrow : DRow w xv ys) (hap : ∀ y ∈ ys, ApartN y.d.x.es.length base w y.ev ∧ ApartN y.d.x.rs.length base w y.rv) (hfit : xs.length + ys.length ≤ 1000000000000) (hbase : base ≤ w.heap.size)
    (h : ∀ v' w', DOwn base w' v' (xs ++ ys) → w.grownBy w' v.ownBlock → wpList Try.prog ops Q rest (a.put o.dst v') w') : wpList Try.prog ops Q (o :: rest) a w := by
  obtain ⟨i0, hi, hz0, hz1, hz2⟩ := info_parts infoDd
  obtain ⟨⟨⟨ao, cap, rfl, h1, h2, h3, h4⟩, hb⟩, hd⟩ := hrow
  cases ao with
  | none =>
    have hc0 := h3 rfl
    have hl0 : ys = [] := List.eq_nil_of_length_eq_zero (by omega)
    subst hc0
    subst hl0
    refine wpList_append_own_none hgd s x 22 ho base 38 i0 9 Try.underlying22 hi v _ _ hs hown.1.1 hx ?_
    exact h v w (by rw [List.append_nil]; exact hown) (World.grownBy.refl _ _)
  | some ad =>
    refine wpList_append_own w hgd s x 22 ho base 38 i0 (.agg #[.int .i64 0, .int .i64 0, .int .i64 0, .int .i64 0, .int .i64 0, .int .i64 0, .string ByteArray.empty, .slice none 0 0, .slice none 0 0]) 9 112 Try.underlying22 hi hz0 hz1 hz2 rfl (by decide) v _ _ hs hown.1.1 ad ys.length cap (flatD ys) hx (flatD_length ys) (fun j u hu => by
      obtain ⟨i, c, r, rfl, _, hr, hc⟩ := flatD_get hu
      exact h4 ad rfl i r hr c u hc) (flatD_one ys hb) (by unfold maxLen; omega) (by omega) hbase ?_
    intro v' w' ho' hg' _
    refine h v' w' ⟨⟨by rw [List.length_append, flatD_append]; exact ho', ?_⟩, ?_⟩ hg'
    · intro n hn
      rcases List.mem_append.1 hn with h' | h'
      · exact hown.1.2 n h'
      · exact hb n h'
    · intro n hn
      rcases List.mem_append.1 hn with h' | h'
      · obtain ⟨g1, g2, g3⟩ := hown.2 n h'
        exact ⟨g1.grown g2 g3 hown.1.1 hg', g2.grown hown.1.1 hg', g3.grown hown.1.1 hg'⟩
      · obtain ⟨g2, g3⟩ := hap n h'
        exact ⟨(hd n h').grown g2 g3 hown.1.1 hg', g2.grown hown.1.1 hg', g3.grown hown.1.1 hg'⟩
end Go.Proofs.Ytgkmgpjhpplkiaa
