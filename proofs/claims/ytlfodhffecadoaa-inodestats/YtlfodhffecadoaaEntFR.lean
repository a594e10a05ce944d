/-
  Entries: the document's Find.
-/
import Derived.Test.YtlfodhffecadoaaEntK
namespace Go.Proofs.Ytlfodhffecadoaa
open Go.RowKit
set_option linter.unusedVariables false
set_option maxRecDepth 100000

theorem above_more {l : List En} {s : List UInt8} {k : Nat} (h : ∀ j, j < k → ¬ s < bl (l.getD j default).s) (h2 : ¬ s < bl (l.getD k default).s) : ∀ j, j < k + 1 → ¬ s < bl (l.getD j default).s := by
  intro j hj
  by_cases e : j = k
  · subst e; exact h2
  · exact h j (by omega)

/-- An entry in a block of its own. -/
theorem one_row {w : World} {vb : Nat} {e : En} {t : TypeId} (h : Blk w vb #[.string e.s, .int .i64 e.n] t) (he : e.Wf) : ERow w (.slice (some ⟨vb, 0, none⟩) 1 1) [e] :=
  erow_blk h rfl (Nat.le_refl _) (by unfold maxLen; omega) rfl (fun r hr => by rw [List.mem_singleton.1 hr]; exact he)

/-- append of a row of entries to one that the call owns, as one step of a region that draws. -/
theorem step_append_ents {ops : Array Oper} {o : Oper} {a : Act} {w : World} {K : Act → World → Prop} {Q : Exit → Act → World → Prop} {E : Prop} (hw : Region.wanted o (yielded ops a.tmps) = true) (s x : Operand)
    (ho : o.op = .call { callee := .builtin .append, args := #[s, x], argTypes := #[22, 22] })
    (base : Nat) (v xv : Value) (xs ys : List En) (hs : a.eval s = v) (hown : EOwn base w v xs) (hx : a.eval x = xv) (hrow : ERow w xv ys) (hfit : xs.length + ys.length ≤ 1000000000000) (hbase : base ≤ w.heap.size)
    (hK : ∀ v' w', EOwn base w' v' (xs ++ ys) → w.grownBy w' v.ownBlock → K (a.put o.dst v') w') : if Region.wanted o (yielded ops a.tmps) = true then Oper.wp Try.prog o a w K Q else E := by
  rw [if_pos hw]
  obtain ⟨i0, hi, hz0, hz1, hz2⟩ := info_parts infoEn
  obtain ⟨⟨ao, cap, rfl, h1, h2, h3, h4⟩, hb⟩ := hrow
  have hwf : ∀ n ∈ xs ++ ys, n.Wf := by
    intro n hn
    rcases List.mem_append.1 hn with h' | h'
    · exact hown.2 n h'
    · exact hb n h'
  cases ao with
  | none =>
    have hc0 := h3 rfl
    have hl0 : ys = [] := List.eq_nil_of_length_eq_zero (by omega)
    subst hc0
    subst hl0
    have hrun := run_append_owned_none (P := Try.prog) (w := w) base 22 o.type 38 i0 2 Try.underlying22 hi v _ _ hown.1
    unfold Oper.wp
    simp [execOp, ho, resolve, invoke, builtin, hs, hx, hrun, Result.andThen]
    exact hK v w (by rw [List.append_nil]; exact hown) (World.grownBy.refl _ _)
  | some ad =>
    obtain ⟨v', w', hrun, r1, r2, _⟩ := run_append_own (P := Try.prog) (w := w) base 22 o.type 38 i0 (.agg #[.string ByteArray.empty, .int .i64 0]) 2 24 Try.underlying22 hi hz0 hz1 hz2 rfl (by decide) v _ _ hown.1 ad ys.length cap (flatE ys) (flatE_length ys) (fun j u hu => by
      obtain ⟨i, c, r, rfl, _, hr, hc⟩ := flatE_get hu
      exact h4 ad rfl i r hr c u hc) (flatE_one ys) (by unfold maxLen; omega) (by omega) hbase
    unfold Oper.wp
    simp [execOp, ho, resolve, invoke, builtin, hs, hx, hrun, Result.andThen]
    exact hK v' w' ⟨by rw [List.length_append, flatE_append]; exact r1, hwf⟩ r2

theorem add_step {b0 : Nat} {s : ByteArray} {w1 W W' : World} (hb : Below W.heap.size W W') (h : W.cell? ⟨b0, 0, none⟩ = some (.string s) ∧ Below w1.heap.size w1 W) : W'.cell? ⟨b0, 0, none⟩ = some (.string s) ∧ Below w1.heap.size w1 W' := ⟨kl_cell hb h.1, kl_step hb h.2⟩
theorem add_step2 {b0 : Nat} {s : ByteArray} {n : Int} {w1 W W' : World} (hb : Below W.heap.size W W') (h : (W.cell? ⟨b0, 0, none⟩ = some (.string s) ∧ W.cell? ⟨b0, 1, none⟩ = some (.int .i64 n)) ∧ Below w1.heap.size w1 W) :
    (W'.cell? ⟨b0, 0, none⟩ = some (.string s) ∧ W'.cell? ⟨b0, 1, none⟩ = some (.int .i64 n)) ∧ Below w1.heap.size w1 W' := ⟨⟨kl_cell hb h.1.1, kl_cell hb h.1.2⟩, kl_step hb h.2⟩

theorem add_step3 {b0 : Nat} {s : ByteArray} {n : Int} {w9 W W' : World} (hb : Below w9.heap.size W W') (hlt : b0 < w9.heap.size) (h : (W.cell? ⟨b0, 0, none⟩ = some (.string s) ∧ W.cell? ⟨b0, 1, none⟩ = some (.int .i64 n)) ∧ Below w9.heap.size w9 W) :
    (W'.cell? ⟨b0, 0, none⟩ = some (.string s) ∧ W'.cell? ⟨b0, 1, none⟩ = some (.int .i64 n)) ∧ Below w9.heap.size w9 W' := ⟨⟨(hb.cell (p := ⟨b0, 0, none⟩) hlt).trans h.1.1, (hb.cell (p := ⟨b0, 1, none⟩) hlt).trans h.1.2⟩, h.2.trans hb⟩
theorem findS_some {l : List En} {s : List UInt8} {i : Nat} (h : atS l s = some i) : findS l s = ((l.getD i default).n, true) := by unfold findS; rw [h]
theorem findS_none {l : List En} {s : List UInt8} (h : atS l s = none) : findS l s = (0, false) := by unfold findS; rw [h]

set_option maxHeartbeats 2000000 in
theorem RFind_any (w : World) (v : Value) (l : List En) (h : ERow w v l) (s : ByteArray) :
    Calls Try.prog 25 #[v, .string s] w fun e w' => e = .returned (.tuple #[.int .i64 (findS l (bl s)).1, .bool (findS l (bl s)).2]) ∧ w' = w := by
  have hlr := h.lenRun
  have hlm := h.len
  unfold maxLen at hlm
  have HR := hide h
  obtain ⟨len, hL⟩ : ∃ n, l.length = n := ⟨_, rfl⟩
  have HL := hide hL
  simp only [hL] at hlr
  rw [hL] at hlm
  have HG : Hid (∀ r : Int × Bool, ((∃ k : Nat, k < len ∧ r = ((l.getD k default).n, true) ∧ bl (l.getD k default).s = bl s ∧ ∀ j, j < k → bl (l.getD j default).s ≠ bl s) ∨ (r = (0, false) ∧ ∀ j, j < len → bl (l.getD j default).s ≠ bl s)) → r = findS l (bl s)) := by
    rintro r (⟨k, hk, rfl, h1, h2⟩ | ⟨rfl, h2⟩)
    · exact (findS_some (atS_some.2 ⟨by omega, h1, h2⟩)).symm
    · refine (findS_none (atS_none.2 fun x hx => ?_)).symm
      obtain ⟨j, hj, rfl⟩ := List.mem_iff_getElem.1 hx
      have := h2 j (by omega)
      rwa [show l.getD j default = l[j] from by simp [List.getD, List.getElem?_eq_getElem hj]] at this
  clear hL h
  generalize findS l (bl s) = R at *
  obtain ⟨R1, R2⟩ := R
  go_enter Try.func25, Try.ntmps25
  go_wp2
  go_loop [6] (fun i => ∃ k : Nat, k ≤ len ∧ i = .int .i64 k ∧ Hid (∀ j, j < k → bl (l.getD j default).s ≠ bl s)) (fun i => len - (intOf i).toNat)
  case atStart => exact ⟨0, Nat.zero_le _, rfl, hide (fun j hj => absurd hj (Nat.not_lt_zero _))⟩
  case round =>
    obtain ⟨k, hk, rfl, HN⟩ := hrel
    by_cases hlt : k < len
    · have hlt' : (k : Int) < len := by omega
      have hkl : k < l.length := by rw [HL.out]; exact hlt
      obtain ⟨bb, o, hbs, hix, c0, c1⟩ := HR.out.idx k hkl
      have hy := fun h1 => HG.out _ (.inl ⟨k, hlt, rfl, h1, HN.out⟩)
      have hm : ¬ bl (l.getD k default).s = bl s → ∀ j, j < k + 1 → bl (l.getD j default).s ≠ bl s := fun h1 j hj => by
        by_cases e : j = k
        · subst e; exact h1
        · exact HN.out j (by omega)
      generalize l.getD k default = x at *
      obtain ⟨xs, xn⟩ := x
      simp only at c0 c1 hm hy
      have hq := same_bl xs s
      by_cases he : bl xs = bl s
      · have H1 := hide (congrArg Prod.fst (hy he))
        have H2 := hide (congrArg Prod.snd (hy he))
        rw [decide_eq_true he] at hq
        clear hy hm he hkl
        go_wp2
        go_ret2
        exact ⟨ret_two (congrArg (Value.int .i64) H1.out) (congrArg Value.bool H2.out), rfl⟩
      · have HY := hide (hm he)
        rw [decide_eq_false he] at hq
        clear hy hm he hkl
        go_wp2
        exact ⟨⟨k + 1, by omega, by go_num, HY⟩, by simp [intOf]; omega⟩
    · obtain rfl : k = len := by omega
      have hy := HG.out _ (.inr ⟨rfl, HN.out⟩)
      have H1 := hide (congrArg Prod.fst hy)
      have H2 := hide (congrArg Prod.snd hy)
      clear hy
      go_wp2
      go_ret2
      exact ⟨ret_two (congrArg (Value.int .i64) H1.out) (congrArg Value.bool H2.out), rfl⟩
end Go.Proofs.Ytlfodhffecadoaa
