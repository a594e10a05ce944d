/-
  Entries: Remove; the document's Remove.
-/
import Derived.Test.YtjmdinfdnjbcoaaEntO
namespace Go.Proofs.Ytjmdinfdnjbcoaa
open Go.RowKit
set_option linter.unusedVariables false
set_option maxRecDepth 100000

theorem remS_some {l : List En} {s : List UInt8} {i : Nat} (h : atS l s = some i) : remS l s = (cutAt l i, 0) := by unfold remS; rw [h]
theorem remS_none {l : List En} {s : List UInt8} (h : atS l s = none) : remS l s = ([], 11) := by unfold remS; rw [h]

set_option maxHeartbeats 2000000 in
theorem Remove_any (w : World) (v : Value) (l : List En) (h : ERow w v l) (hz : l.length ≤ 1000000) (s : ByteArray) (hs : s.size ≤ maxLen) :
    Calls Try.prog 11 #[v, .string s] w fun e w' => ∃ u, e = .returned (.tuple #[u, .int .i64 (remS l (bl s)).2]) ∧ EOwn w.heap.size w' u (remS l (bl s)).1 ∧ Below w.heap.size w w' := by
  have hpl := places_any w v l h hz
  have HR := hide h
  have HS := hide hs
  unfold maxLen at hs
  clear h
  cases hat : atS l (bl s) with
  | none =>
    rw [remS_none hat]
    go_enter Try.func11, Try.ntmps11
    go_wp2_with fail
    refine hpl.mono ?_
    rintro e w1 ⟨rfl, ⟨n, hM⟩, hb1⟩
    have hlk := hM.look s HS.out
    rw [hat] at hlk
    simp only [Option.getD_none, Option.isSome_none] at hlk
    clear hM
    go_wp2
    go_ret2
    exact ⟨_, rfl, EOwn.nil _ _, hb1⟩
  | some i =>
    rw [remS_some hat]
    have hlt := atS_lt hat
    have HL := hide hlt
    have HA := hide hat
    have HZ := hide hz
    have hi : i < 1000000 := by omega
    clear hat hlt hz
    go_enter Try.func11, Try.ntmps11
    go_wp2_with fail
    refine hpl.mono ?_
    rintro e w1 ⟨rfl, ⟨n, hM⟩, hb1⟩
    have hlk := hM.look s HS.out
    rw [HA.out] at hlk
    simp only [Option.getD_some, Option.isSome_some] at hlk
    clear hM
    go_wp2_with fail
    refine (CloneE_any w1 v l (HR.out.below hb1) HZ.out).mono ?_
    rintro e w2 ⟨u2, rfl, ho2, hb2⟩
    have hB2 : Below w.heap.size w w2 := kl_step hb2 hb1
    have HO2 := hide (ho2.mono hb1.size)
    clear ho2 hb2 hlk hb1
    go_wp2_with fail
    refine (Delete_any w2 w.heap.size u2 l i HO2.out HZ.out HL.out).mono ?_
    rintro e w3 ⟨u3, rfl, ho3, hg3⟩
    have hB3 : Below w.heap.size w w3 := HO2.out.grown_below hB2 hg3 (Nat.le_refl _) hB2.size
    have HO3 := hide ho3
    clear ho3 hg3
    go_wp2
    go_ret2
    exact ⟨_, rfl, HO3.out, hB3⟩

/-- append of a row of entries to one that the call owns, as one step of a region that draws. -/
theorem step_append_ents {ops : Array Oper} {o : Oper} {a : Act} {w : World} {K : Act → World → Prop} {Q : Exit → Act → World → Prop} {E : Prop} (hw : Region.wanted o (yielded ops a.tmps) = true) (s x : Operand)
    (ho : o.op = .call { callee := .builtin .append, args := #[s, x], argTypes := #[22, 22] })
    (base : Nat) (v xv : Value) (xs ys : List En) (hs : a.eval s = v) (hown : EOwn base w v xs) (hx : a.eval x = xv) (hrow : ERow w xv ys) (hfit : xs.length + ys.length ≤ 1000000000000) (hbase : base ≤ w.heap.size)
    (hK : ∀ v' w', EOwn base w' v' (xs ++ ys) → w.grownBy w' v.ownBlock → K (a.put o.dst v') w') : if Region.wanted o (yielded ops a.tmps) = true then Oper.wp Try.prog o a w K Q else E := by
  rw [if_pos hw]
  obtain ⟨i0, hi, hz0, hz1, hz2⟩ := info_parts infoEn
  obtain ⟨⟨ao, cap, rfl, h1, h2, h3, h4⟩, hb⟩ := hrow
  have hwf : ∀ n ∈ xs ++ ys, n.Wf := by
    intro n hn
    rcases List.mem_append.1 hn with h' | h'
    · exact hown.2 n h'
    · exact hb n h'
  cases ao with
  | none =>
    have hc0 := h3 rfl
    have hl0 : ys = [] := List.eq_nil_of_length_eq_zero (by omega)
    subst hc0
    subst hl0
    have hrun := run_append_owned_none (P := Try.prog) (w := w) base 22 o.type 24 i0 2 Try.underlying22 hi v _ _ hown.1
    unfold Oper.wp
    simp [execOp, ho, resolve, invoke, builtin, hs, hx, hrun, Result.andThen]
    exact hK v w (by rw [List.append_nil]; exact hown) (World.grownBy.refl _ _)
  | some ad =>
    obtain ⟨v', w', hrun, r1, r2, _⟩ := run_append_own (P := Try.prog) (w := w) base 22 o.type 24 i0 (.agg #[.string ByteArray.empty, .int .i64 0]) 2 24 Try.underlying22 hi hz0 hz1 hz2 rfl (by decide) v _ _ hown.1 ad ys.length cap (flatE ys) (flatE_length ys) (fun j u hu => by
      obtain ⟨i, c, r, rfl, _, hr, hc⟩ := flatE_get hu
      exact h4 ad rfl i r hr c u hc) (flatE_one ys) (by unfold maxLen; omega) (by omega) hbase
    unfold Oper.wp
    simp [execOp, ho, resolve, invoke, builtin, hs, hx, hrun, Result.andThen]
    exact hK v' w' ⟨by rw [List.length_append, flatE_append]; exact r1, hwf⟩ r2

set_option maxHeartbeats 2000000 in
theorem RRemove_any (w : World) (v : Value) (l : List En) (h : ERow w v l) (hz : l.length ≤ 1000000) (s : ByteArray) :
    Calls Try.prog 12 #[v, .string s] w fun e w' => ∃ u, e = .returned (.tuple #[u, .int .i64 (remS l (bl s)).2]) ∧ EOwn w.heap.size w' u (remS l (bl s)).1 ∧ Below w.heap.size w w' := by
  have hlr := h.lenRun
  have HR := hide h
  obtain ⟨len, hL⟩ : ∃ n, l.length = n := ⟨_, rfl⟩
  have HL := hide hL
  simp only [hL] at hlr
  rw [hL] at hz
  have HG : Hid (∀ r : List En × Int, ((∃ k : Nat, k < len ∧ r = (cutAt l k, 0) ∧ bl (l.getD k default).s = bl s ∧ ∀ j, j < k → bl (l.getD j default).s ≠ bl s) ∨ (r = ([], 11) ∧ ∀ j, j < len → bl (l.getD j default).s ≠ bl s)) → r = remS l (bl s)) := by
    rintro r (⟨k, hk, rfl, h1, h2⟩ | ⟨rfl, h2⟩)
    · exact (remS_some (atS_some.2 ⟨by omega, h1, h2⟩)).symm
    · refine (remS_none (atS_none.2 fun x hx => ?_)).symm
      obtain ⟨j, hj, rfl⟩ := List.mem_iff_getElem.1 hx
      have := h2 j (by omega)
      rwa [show l.getD j default = l[j] from by simp [List.getD, List.getElem?_eq_getElem hj]] at this
  clear hL h
  generalize remS l (bl s) = R at *
  obtain ⟨R1, R2⟩ := R
  go_enter Try.func12, Try.ntmps12
  go_wp2
  go_loop [6] (fun i => ∃ k : Nat, k ≤ len ∧ i = .int .i64 k ∧ Hid (∀ j, j < k → bl (l.getD j default).s ≠ bl s)) (fun i => len - (intOf i).toNat)
  case atStart => exact ⟨0, Nat.zero_le _, rfl, hide (fun j hj => absurd hj (Nat.not_lt_zero _))⟩
  case round =>
    obtain ⟨k, hk, rfl, HN⟩ := hrel
    by_cases hlt : k < len
    · have hlt' : (k : Int) < len := by omega
      have hkl : k < l.length := by rw [HL.out]; exact hlt
      obtain ⟨bb, o, hbs, hix, c0, c1⟩ := HR.out.idx k hkl
      have hy := fun h1 => HG.out _ (.inl ⟨k, hlt, rfl, h1, HN.out⟩)
      have hm : ¬ bl (l.getD k default).s = bl s → ∀ j, j < k + 1 → bl (l.getD j default).s ≠ bl s := fun h1 j hj => by
        by_cases e : j = k
        · subst e; exact h1
        · exact HN.out j (by omega)
      generalize l.getD k default = x at *
      obtain ⟨xs, xn⟩ := x
      simp only at c0 c1 hm hy
      have hq := same_bl xs s
      by_cases he : bl xs = bl s
      · have H1 := hide (congrArg Prod.fst (hy he))
        have H2 := hide (congrArg Prod.snd (hy he))
        rw [decide_eq_true he] at hq
        obtain ⟨v1, hs1, hr1⟩ := HR.out.upto k (by rw [HL.out]; omega)
        obtain ⟨v2, hs2, hr2⟩ := HR.out.from (k + 1) (by rw [HL.out]; omega)
        rw [show ((k + 1 : Nat) : Int) = (k : Int) + 1 by omega] at hs2
        have HR1 := hide hr1
        have HR2 := hide hr2
        have hw1 : IntKind.i64.wrap ((k : Int) + 1) = (k : Int) + 1 := by rw [IntKind.wrap_i64]; omega
        have HF1 := hide (show ([] : List En).length + (l.take k).length ≤ 1000000000000 by simp; omega)
        have HF2 := hide (show (l.take k).length + (l.drop (k + 1)).length ≤ 1000000000000 by have := HL.out; simp; omega)
        clear hy hm he hkl hr1 hr2
        go_wp2_with fail
        go_region_law (first
          | (refine step_append_ents (by rfl) _ _ (by rfl) w.heap.size (.slice none 0 0) v1 [] (l.take k) (by rfl) (EOwn.nil _ _) (by rfl) (HR1.out.below (kl_drew w)) HF1.out (by simp) ?_; intro u8 w8 ho8 hg8)
          | (refine step_append_ents (by rfl) _ _ (by rfl) w.heap.size u8 v2 (l.take k) (l.drop (k + 1)) (by rfl) ho8 (by rfl) (HR2.out.below ((kl_drew w).grown hg8 (Nat.le_refl _) (fun k e => by cases e))) HF2.out hg8.size ?_; intro u9 w9 ho9 hg9))
        have hb8 : Below w.heap.size w w8 := (kl_drew w).grown hg8 (Nat.le_refl _) (fun k e => by cases e)
        have hb9 : Below w.heap.size w w9 := ho8.grown_below hb8 hg9 (Nat.le_refl _) hb8.size
        have HO := hide ho9
        clear ho8 ho9 hg8 hg9
        go_wp2
        go_ret2
        exact ⟨_, ret_two rfl (congrArg (Value.int .i64) H2.out), by rw [← H1.out]; exact HO.out, hb9⟩
      · have HY := hide (hm he)
        rw [decide_eq_false he] at hq
        clear hy hm he hkl
        go_wp2
        exact ⟨⟨k + 1, by omega, by go_num, HY⟩, by simp [intOf]; omega⟩
    · obtain rfl : k = len := by omega
      have hy := HG.out _ (.inr ⟨rfl, HN.out⟩)
      have H1 := hide (congrArg Prod.fst hy)
      have H2 := hide (congrArg Prod.snd hy)
      clear hy
      go_wp2
      go_ret2
      exact ⟨_, ret_two rfl (congrArg (Value.int .i64) H2.out), by rw [← H1.out]; exact EOwn.nil _ _, Below.refl _ _⟩
end Go.Proofs.Ytjmdinfdnjbcoaa
