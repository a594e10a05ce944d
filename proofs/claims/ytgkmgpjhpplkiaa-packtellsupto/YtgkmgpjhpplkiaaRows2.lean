/-
  Rows of integers and of texts: opened at a place, kept while the world grows.
-/
import Derived.Test.YtgkmgpjhpplkiaaMem2
namespace Go.Proofs.Ytgkmgpjhpplkiaa
open Go.RowKit
set_option linter.unusedVariables false

theorem IRow.at {k : IntKind} {w : World} {v : Value} {xs : List Int} (h : IRow k w v xs) (h0 : 0 < xs.length) :
    ∃ b off cap, v = .slice (some ⟨b, off, none⟩) xs.length cap ∧ b < w.heap.size ∧ ∀ i, i < xs.length → w.cell? ⟨b, off + i, none⟩ = some (.int k (xs.getD i 0)) := by
  obtain ⟨ao, cap, rfl, h1, h2, h3, h4, h5⟩ := h
  cases ao with
  | none => have := h3 rfl; omega
  | some a =>
    obtain ⟨b, off, spot⟩ := a
    have hc := h4 _ rfl 0 h0
    have hspot : spot = none := by simpa [Addr.add] using World.cell?_spot hc
    subst hspot
    refine ⟨b, off, cap, rfl, World.block_lt_of_cell? w _ (by simpa [Addr.add] using hc), fun i hi => ?_⟩
    have := h4 _ rfl i hi
    simpa [Addr.add_lit] using this
theorem SRow.at {w : World} {v : Value} {xs : List ByteArray} (h : SRow w v xs) (h0 : 0 < xs.length) :
    ∃ b off cap, v = .slice (some ⟨b, off, none⟩) xs.length cap ∧ b < w.heap.size ∧ ∀ i, i < xs.length → w.cell? ⟨b, off + i, none⟩ = some (.string (xs.getD i ByteArray.empty)) := by
  obtain ⟨ao, cap, rfl, h1, h2, h3, h4, h5⟩ := h
  cases ao with
  | none => have := h3 rfl; omega
  | some a =>
    obtain ⟨b, off, spot⟩ := a
    have hc := h4 _ rfl 0 h0
    have hspot : spot = none := by simpa [Addr.add] using World.cell?_spot hc
    subst hspot
    refine ⟨b, off, cap, rfl, World.block_lt_of_cell? w _ (by simpa [Addr.add] using hc), fun i hi => ?_⟩
    have := h4 _ rfl i hi
    simpa [Addr.add_lit] using this

theorem wf_at {ls : List Int} {k : Nat} {w : World} {v : Value} (h : k < ls.length) (h1 : IRow .i64 w v ls) : (Lit.int .i64 (ls.getD k 0)).wf = true := by
  obtain ⟨_, _, _, _, _, _, _, h2⟩ := h1
  rw [show ls.getD k 0 = ls[k] from by simp [List.getD, List.getElem?_eq_getElem h]]
  exact h2 _ (List.getElem_mem h)

theorem IRow.len {k : IntKind} {w : World} {v : Value} {xs : List Int} (h : IRow k w v xs) : xs.length ≤ maxLen := by
  obtain ⟨_, _, _, h1, h2, _⟩ := h; omega
theorem IRow.of_len {k : IntKind} {w : World} {v : Value} {xs : List Int} (h : IRow k w v xs) : ∃ ao cap, v = .slice ao xs.length cap := by
  obtain ⟨ao, cap, hv, _⟩ := h; exact ⟨ao, cap, hv⟩
theorem IRow.wf {k : IntKind} {w : World} {v : Value} {xs : List Int} (h : IRow k w v xs) : ∀ n ∈ xs, (Lit.int k n).wf = true := by
  obtain ⟨_, _, _, _, _, _, _, h2⟩ := h; exact h2
theorem IRow.nil (k : IntKind) (w : World) : IRow k w (.slice none 0 0) [] :=
  ⟨none, 0, rfl, Nat.le_refl _, Nat.zero_le _, fun _ => rfl, (fun a h => by cases h), (fun n h => by cases h)⟩
/-- A row that is not empty, read at a place. -/
theorem IRow.mk {k : IntKind} {w : World} {b off cap : Nat} {xs : List Int} (hl : xs.length ≤ cap) (hm : cap ≤ maxLen) (hc : ∀ i, i < xs.length → w.cell? ⟨b, off + i, none⟩ = some (.int k (xs.getD i 0))) (hb : ∀ n ∈ xs, (Lit.int k n).wf = true) :
    IRow k w (.slice (some ⟨b, off, none⟩) xs.length cap) xs := by
  refine ⟨_, cap, rfl, hl, hm, by simp, ?_, hb⟩
  intro a ha j hj
  obtain rfl := Option.some.inj ha
  rw [Addr.add_lit]
  exact hc j hj
/-- What is read is read when the cells that it reads have stayed. -/
theorem IRow.kept {k : IntKind} {w w' : World} {v : Value} {xs : List Int} (h : IRow k w v xs) (hk : ∀ b o u, (∃ off n cap, v = .slice (some ⟨b, off, none⟩) n cap) → w.cell? ⟨b, o, none⟩ = some u → w'.cell? ⟨b, o, none⟩ = some u) : IRow k w' v xs := by
  by_cases h0 : xs = []
  · subst h0
    obtain ⟨ao, cap, rfl, h1, h2, h3, h4, h5⟩ := h
    exact ⟨ao, cap, rfl, h1, h2, h3, fun a _ j hj => by simp at hj, h5⟩
  · obtain ⟨b, off, cap, hv, hlt, hc⟩ := h.at (List.length_pos_iff.2 h0)
    have hm : xs.length ≤ cap ∧ cap ≤ maxLen := by
      obtain ⟨ao, c, hv', h1, h2, _⟩ := h
      rw [hv] at hv'
      simp at hv'
      omega
    have hw := h.wf
    rw [hv]
    exact IRow.mk hm.1 hm.2 (fun i hi => hk _ _ _ ⟨_, _, _, hv⟩ (hc i hi)) hw
theorem IRow.below {k : IntKind} {w w' : World} {v : Value} {xs : List Int} (h : IRow k w v xs) (hb : Below w.heap.size w w') : IRow k w' v xs :=
  h.kept fun b o _ _ hc => (hb.cell (p := ⟨b, o, none⟩) (World.block_lt_of_cell? w _ hc)).trans hc
theorem IRow.grown {k : IntKind} {w w' : World} {v : Value} {xs : List Int} {r : Option Nat} (h : IRow k w v xs) (hg : w.grownBy w' r) (hne : ∀ b off n cap, v = .slice (some ⟨b, off, none⟩) n cap → some b ≠ r) : IRow k w' v xs :=
  h.kept fun b o u ⟨off, n, cap, hv⟩ hc => hg.cell hc (hne b off n cap hv)
end Go.Proofs.Ytgkmgpjhpplkiaa
