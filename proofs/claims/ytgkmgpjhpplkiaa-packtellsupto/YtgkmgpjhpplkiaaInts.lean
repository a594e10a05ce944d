/-
  A row of integers that the call owns; append of a row of integers to it.
-/
import Derived.Test.YtgkmgpjhpplkiaaBlk
namespace Go.Proofs.Ytgkmgpjhpplkiaa
open Go.RowKit
set_option linter.unusedVariables false

def iv (k : IntKind) (xs : List Int) : List Value := xs.map (Value.int k)
theorem iv_length (k : IntKind) (xs : List Int) : (iv k xs).length = xs.length := by simp [iv]
theorem iv_append (k : IntKind) (xs ys : List Int) : iv k (xs ++ ys) = iv k xs ++ iv k ys := by simp [iv]
theorem iv_one (k : IntKind) (xs : List Int) : ∀ u ∈ iv k xs, u.oneCell' = true := ints_oneCell k xs
theorem iv_at {k : IntKind} {xs : List Int} {j : Nat} (hj : j < xs.length) : (iv k xs)[j]? = some (.int k (xs.getD j 0)) := by
  simp [iv, List.getD, List.getElem?_eq_getElem hj]
theorem iv_get {k : IntKind} {xs : List Int} {j : Nat} {u : Value} (h : (iv k xs)[j]? = some u) : j < xs.length ∧ u = .int k (xs.getD j 0) := by
  have hj : j < xs.length := by rw [← iv_length k xs]; exact (List.getElem?_eq_some_iff.1 h).1
  rw [iv_at hj] at h
  exact ⟨hj, (Option.some.inj h).symm⟩

/-- The row of integers that a call owns: from 'base' on. -/
def IOwn (k : IntKind) (e : TypeId) (base : Nat) (w : World) (v : Value) (xs : List Int) : Prop := w.ownsRow base e 1 v xs.length (iv k xs) ∧ ∀ n ∈ xs, (Lit.int k n).wf = true

theorem IOwn.row {k : IntKind} {e : TypeId} {base : Nat} {w : World} {v : Value} {xs : List Int} (h : IOwn k e base w v xs) : IRow k w v xs := by
  obtain ⟨ho, hb⟩ := h
  rcases ho.2 with ⟨rfl, hn⟩ | ⟨g, cap, cur, rfl, hbg, hg, hnc, hcm, hcs, htake⟩
  · have : xs = [] := List.eq_nil_of_length_eq_zero hn
    subst this; exact IRow.nil k w
  · refine ⟨_, cap, rfl, hnc, hcm, by simp, ?_, hb⟩
    intro a ha j hj
    obtain rfl := Option.some.inj ha
    exact ho.cells (g := g) rfl j _ (iv_at hj)
theorem IOwn.nil (k : IntKind) (e : TypeId) (base : Nat) (w : World) : IOwn k e base w (.slice none 0 0) [] := ⟨World.ownsRow_nil _ _ _ _, fun n h => by cases h⟩
/-- Where it lies. -/
theorem IOwn.from {k : IntKind} {e : TypeId} {base : Nat} {w : World} {v : Value} {xs : List Int} (h : IOwn k e base w v xs) : ∀ b off n cap, v = .slice (some ⟨b, off, none⟩) n cap → base ≤ b := by
  intro b off n cap hv
  rcases h.1.2 with ⟨rfl, _⟩ | ⟨g, cap', cur, rfl, hbg, _⟩
  · simp at hv
  · simp at hv
    omega
theorem IOwn.block {k : IntKind} {e : TypeId} {base : Nat} {w : World} {v : Value} {xs : List Int} (h : IOwn k e base w v xs) : ∀ j, v.ownBlock = some j → base ≤ j ∧ j < w.heap.size := h.1.lt
theorem IOwn.alloc {k : IntKind} {e : TypeId} {base : Nat} {w : World} {v : Value} {xs : List Int} (h : IOwn k e base w v xs) (o : Obj) : IOwn k e base (w.alloc o) v xs := ⟨h.1.alloc o, h.2⟩
theorem IOwn.kept {k : IntKind} {e : TypeId} {base : Nat} {w w' : World} {v : Value} {xs : List Int} (h : IOwn k e base w v xs) (hb : Below w.heap.size w w') : IOwn k e base w' v xs :=
  ⟨h.1.kept (row := none) ⟨hb.os, hb.tape, hb.output, hb.size, fun k hk _ => hb.block k hk⟩ (by cases hv : v.ownBlock <;> simp), h.2⟩
theorem IOwn.mono {k : IntKind} {e : TypeId} {base base' : Nat} {w : World} {v : Value} {xs : List Int} (h : IOwn k e base w v xs) (hb : base' ≤ base) : IOwn k e base' w v xs := by
  refine ⟨⟨h.1.1, ?_⟩, h.2⟩
  rcases h.1.2 with hn | ⟨g, cap, cur, hv, hbg, r⟩
  · exact .inl hn
  · exact .inr ⟨g, cap, cur, hv, Nat.le_trans hb hbg, r⟩

/-- append of a row of integers, whatever it is, to one that the call owns. -/
theorem wpList_append_ints {w : World} {ops : Array Oper} {rest : List Oper} {o : Oper} {a : Act} {Q : Exit → Act → World → Prop} (hgd : o.guard = none) (s x : Operand) (t e : TypeId) (k : IntKind) (bytes : Nat)
    (ht : Try.prog.underlying t = some (.slice e)) (hinfo : (Try.prog.info? e).map (fun i => (i.zero, i.size, i.bytes)) = some (some (.int k 0), 1, bytes))
    (ho : o.op = .call { callee := .builtin .append, args := #[s, x], argTypes := #[t, t] })
    (base : Nat) (v xv : Value) (xs ys : List Int) (hs : a.eval s = v) (hown : IOwn k e base w v xs) (hx : a.eval x = xv) (hrow : IRow k w xv ys) (hfit : (xs.length + ys.length) * bytes ≤ 140737488355328) (h63 : xs.length + ys.length ≤ maxLen) (hbase : base ≤ w.heap.size)
    (h : ∀ v' w', IOwn k e base w' v' (xs ++ ys) → w.grownBy w' v.ownBlock → wpList Try.prog ops Q rest (a.put o.dst v') w') : wpList Try.prog ops Q (o :: rest) a w := by
  obtain ⟨i0, hi, hz0, hz1, hz2⟩ := info_parts hinfo
  have hb := hrow.wf
  obtain ⟨ao, cap, rfl, h1, h2, h3, h4, h5⟩ := hrow
  cases ao with
  | none =>
    have hc0 := h3 rfl
    have hl0 : ys = [] := List.eq_nil_of_length_eq_zero (by omega)
    subst hc0
    subst hl0
    refine wpList_append_own_none hgd s x t ho base e i0 1 ht hi v _ _ hs hown.1 hx ?_
    exact h v w (by rw [List.append_nil]; exact hown) (World.grownBy.refl _ _)
  | some ad =>
    refine wpList_append_own w hgd s x t ho base e i0 (.int k 0) 1 bytes ht hi hz0 hz1 hz2 rfl (by decide) v _ _ hs hown.1 ad ys.length cap (iv k ys) hx (by rw [iv_length, Nat.mul_one]) (fun j u hu => by obtain ⟨hj, rfl⟩ := iv_get hu; exact h4 ad rfl j hj) (iv_one k ys) h63 hfit hbase ?_
    intro v' w' ho' hg' _
    refine h v' w' ⟨by rw [List.length_append, iv_append]; exact ho', ?_⟩ hg'
    intro n hn
    rcases List.mem_append.1 hn with h' | h'
    · exact hown.2 n h'
    · exact hb n h'
end Go.Proofs.Ytgkmgpjhpplkiaa
