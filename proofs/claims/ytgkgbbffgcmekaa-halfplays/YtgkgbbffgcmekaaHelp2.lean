/-
  The contracts of the helpers that copy and hold against each other: Own, Same, Plain, Kept, at bytes.
-/
import Derived.Test.YtgkgbbffgcmekaaMem2
import Derived.OpenShut
import Derived.Deep.RegionWith
namespace Go.Proofs.Ytgkgbbffgcmekaa
open Go.RowKit
set_option linter.unusedVariables false

/-- All cells of an owned row up to its capacity, whatever they are. -/
theorem owns_full {w : World} {base : Nat} {e : TypeId} {g n cap : Nat} {xs : List Value} (h : w.ownsRow base e 1 (.slice (some ⟨g, 0, none⟩) n cap) n xs) :
    n ≤ cap ∧ ∃ ys, ys.length = cap - n ∧ w.ownsRow base e 1 (.slice (some ⟨g, 0, none⟩) cap cap) cap (xs ++ ys) := by
  rcases h.2 with ⟨h', _⟩ | ⟨g', cap', cur, h', hb, hg, hnc, hcm, hcs, htake⟩
  · simp at h'
  · simp only [Value.slice.injEq, Option.some.injEq, Addr.mk.injEq, and_true, true_and] at h'
    obtain ⟨rfl, rfl⟩ := h'
    rw [Nat.mul_one] at hcs htake
    refine ⟨hnc, cur.toList.drop n, by simp [hcs], ?_⟩
    have e1 : xs ++ cur.toList.drop n = cur.toList := by rw [← htake, List.take_append_drop]
    rw [e1]
    exact ⟨by simp [hcs], .inr ⟨g, cap, cur, rfl, hb, hg, Nat.le_refl _, hcm, by rw [Nat.mul_one, hcs], by rw [Nat.mul_one, List.take_of_length_le (by simp [hcs])]⟩⟩

/-- Its first n cells alone. -/
theorem owns_cut {w : World} {base : Nat} {e : TypeId} {g n cap : Nat} {xs : List Value} (h : w.ownsRow base e 1 (.slice (some ⟨g, 0, none⟩) cap cap) cap xs) (hn : n ≤ cap) :
    w.ownsRow base e 1 (.slice (some ⟨g, 0, none⟩) n cap) n (xs.take n) := by
  have hl : xs.length = cap := by simpa using h.1
  rcases h.2 with ⟨h', _⟩ | ⟨g', cap', cur, h', hb, hg, hnc, hcm, hcs, htake⟩
  · simp at h'
  · simp only [Value.slice.injEq, Option.some.injEq, Addr.mk.injEq, and_true, true_and] at h'
    obtain ⟨rfl, rfl⟩ := h'
    refine ⟨by simp [hl]; omega, .inr ⟨g, cap, cur, rfl, hb, hg, hn, hcm, hcs, ?_⟩⟩
    rw [← htake, List.take_take]
    congr 1
    omega

theorem set_fill (xs : List Int) (ys : List Value) (f : Int) (k : Nat) (hk : k < ys.length) : (bv xs ++ (List.replicate k (Value.int .u8 f) ++ ys.drop k)).set (xs.length + k) (.int .u8 f) = bv xs ++ (List.replicate (k + 1) (Value.int .u8 f) ++ ys.drop (k + 1)) := by
  rw [List.set_append_right _ _ (by rw [bv_length]; omega), bv_length, Nat.add_sub_cancel_left, List.set_append_right _ _ (by simp), List.length_replicate, Nat.sub_self, List.drop_eq_getElem_cons hk, List.set_cons_zero, List.replicate_succ']
  simp

/-- Only draws: all memory is as it was. -/
def Still (w w' : World) : Prop := ∀ B, Below B w w'
theorem Still.refl (w : World) : Still w w := fun B => Below.refl B w
theorem Still.trans {a b c : World} (h : Still a b) (k : Still b c) : Still a c := fun B => (h B).trans (k B)
theorem Still.drew {a w : World} (h : Still a w) : Still a w.drew := fun B => (h B).drew
theorem Still.cell {w w' : World} (h : Still w w') (a : Addr) : w'.cell? a = w.cell? a := (h (a.block + 1)).cell (by omega)
theorem Still.size {w w' : World} (h : Still w w') : w'.heap.size = w.heap.size := by
  have h1 := (h 0).size
  rcases Nat.lt_or_ge w.heap.size w'.heap.size with h2 | h2
  · have h3 := (h (w.heap.size + 1)).block w.heap.size (by omega)
    rw [Array.getElem?_eq_none (Nat.le_refl _), Array.getElem?_eq_getElem h2] at h3
    cases h3
  · omega
theorem Still.row {w w' : World} {v : Value} {xs : List Int} (h : Still w w') (r : Row w v xs) : Row w' v xs := r.below (h _)

theorem getD_eq {xs : List Int} {k : Nat} (h : k < xs.length) : xs.getD k 0 = xs[k] := by simp [List.getD, List.getElem?_eq_getElem h]

theorem take_all_eq {xs ys : List Int} {n : Nat} (hx : xs.length = n) (hy : ys.length = n) (h : xs.take n = ys.take n) : xs = ys := by
  rw [List.take_of_length_le (by omega), List.take_of_length_le (by omega)] at h; exact h
theorem take_more {xs ys : List Int} {k : Nat} (hx : k < xs.length) (hy : k < ys.length) (h : xs.take k = ys.take k) (e : xs.getD k 0 = ys.getD k 0) : xs.take (k + 1) = ys.take (k + 1) := by
  rw [List.take_succ_eq_append_getElem hx, List.take_succ_eq_append_getElem hy, h, ← getD_eq hx, ← getD_eq hy, e]

end Go.Proofs.Ytgkgbbffgcmekaa
