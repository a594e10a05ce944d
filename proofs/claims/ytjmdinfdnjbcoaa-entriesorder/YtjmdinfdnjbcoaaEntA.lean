/-
  Entries: slices.Clone, slices.IndexFunc, above.
-/
import Derived.Test.YtjmdinfdnjbcoaaEntM
import Derived.Test.YtjmdinfdnjbcoaaNameA
import Derived.Lib.AppendStr
namespace Go.Proofs.Ytjmdinfdnjbcoaa
open Go.RowKit
set_option linter.unusedVariables false
set_option maxRecDepth 100000

/-! ### slices.Clone -/
theorem eqNil11 (w : World) (a : Option Addr) (n c : Nat) : (binOp .eql 22 (.slice a n c) (.slice none 0 0)).run Try.prog w = .ok (.bool a.isNone) w := Lib.run_eql_slice_nil w _ _ a n c 0 0 Try.underlying22
theorem eown_empty (w : World) : EOwn w.heap.size (w.alloc (.cells #[] 24)) (.slice (some ⟨w.heap.size, 0, none⟩) 0 0) [] :=
  ⟨⟨rfl, .inr ⟨w.heap.size, 0, #[], rfl, Nat.le_refl _, Blk.new w #[] 24, Nat.le_refl _, Nat.zero_le _, rfl, rfl⟩⟩, fun r h => by cases h⟩
set_option maxHeartbeats 1000000 in
theorem CloneE_any (w : World) (v : Value) (l : List En) (h : ERow w v l) (hn : l.length ≤ 1000000) :
    Calls Try.prog 23 #[v] w fun e w' => ∃ u, e = .returned u ∧ EOwn w.heap.size w' u l ∧ Below w.heap.size w w' := by
  obtain ⟨ao, cap, rfl⟩ := h.of_len
  have h1 := eqNil11 w ao l.length cap
  have hb : Below w.heap.size w (w.alloc (.cells #[] 24)) := (Below.refl _ _).alloc (Nat.le_refl _) _
  have HR := hide (h.below hb)
  cases ao with
  | none =>
    have h0 : l = [] := by
      obtain ⟨⟨ao, c2, hv, g1, g2, g3, _⟩, _⟩ := h
      simp at hv
      have := g3 hv.1.symm
      exact List.eq_nil_of_length_eq_zero (by omega)
    subst h0
    simp at h1
    clear h HR hn
    simp only [List.length_nil]
    go_enter Try.func23, Try.ntmps23
    go_wp2
    go_ret
    exact ⟨_, rfl, EOwn.nil _ _, Below.refl _ _⟩
  | some ad =>
    simp at h1
    have HF := hide (show ([] : List En).length + l.length ≤ 1000000000000 by simp; omega)
    clear h hn
    generalize l.length = len at h1 HR ⊢
    go_enter Try.func23, Try.ntmps23
    go_wp2_with (at_builtin; refine wpList_append_ents rfl _ _ rfl w.heap.size _ _ [] l rfl (eown_empty w) rfl HR.out HF.out (by simp) ?_)
    intro v' w' hown hg
    have hB : Below w.heap.size w w' := hb.grown hg (by simp) (fun k e => by cases e; exact Nat.le_refl _)
    try rw [List.nil_append] at hown
    have HO := hide hown
    clear hown hg
    go_wp2
    go_ret
    exact ⟨_, rfl, HO.out, hB⟩
end Go.Proofs.Ytjmdinfdnjbcoaa
