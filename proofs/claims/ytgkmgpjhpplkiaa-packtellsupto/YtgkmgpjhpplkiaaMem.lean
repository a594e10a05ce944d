/-
  A slice of bytes in memory: 'Row w v xs': the value v reads the bytes xs in the world w. What is kept of it when the world grows; how a row that a call owns is such a one.
-/
import Derived.Test.YtgkmgpjhpplkiaaPlain
namespace Go.Proofs.Ytgkmgpjhpplkiaa
open Go.RowKit

/-- The slice v reads the bytes xs. -/
def Row (w : World) (v : Value) (xs : List Int) : Prop :=
  ∃ ao cap, v = .slice ao xs.length cap ∧ xs.length ≤ cap ∧ cap ≤ maxLen ∧ (ao = none → cap = 0) ∧ (∀ a, ao = some a → ∀ j u, (bv xs)[j]? = some u → w.cell? (a.add j) = some u) ∧ Bys xs

theorem Row.bys {w : World} {v : Value} {xs : List Int} (h : Row w v xs) : Bys xs := by
  obtain ⟨_, _, _, _, _, _, _, hb⟩ := h; exact hb
theorem Row.nil (w : World) : Row w (.slice none 0 0) [] :=
  ⟨none, 0, rfl, Nat.le_refl _, Nat.zero_le _, fun _ => rfl, (fun a h => by cases h), Bys.nil⟩
theorem Row.len {w : World} {v : Value} {xs : List Int} (h : Row w v xs) : xs.length ≤ maxLen := by
  obtain ⟨_, _, _, h1, h2, _⟩ := h; omega

/-- A row that is not empty lies in one block, its cells one behind the other. -/
theorem Row.at {w : World} {v : Value} {xs : List Int} (h : Row w v xs) (h0 : xs ≠ []) :
    ∃ b off cap, v = .slice (some ⟨b, off, none⟩) xs.length cap ∧ xs.length ≤ cap ∧ b < w.heap.size ∧ ∀ i, i < xs.length → w.cell? ⟨b, off + i, none⟩ = some (.int .u8 (xs.getD i 0)) := by
  obtain ⟨ao, cap, rfl, h1, h2, h3, h4, h5⟩ := h
  have hp : 0 < xs.length := List.length_pos_iff.2 h0
  cases ao with
  | none => have := h3 rfl; omega
  | some a =>
    obtain ⟨b, off, spot⟩ := a
    have hc := h4 _ rfl 0 _ (bv_at hp)
    have hspot : spot = none := by simpa [Addr.add] using World.cell?_spot hc
    subst hspot
    refine ⟨b, off, cap, rfl, h1, World.block_lt_of_cell? w _ (by simpa [Addr.add] using hc), fun i hi => ?_⟩
    have := h4 _ rfl i _ (bv_at hi)
    simpa [Addr.add_lit] using this

/-- A row that is not empty, read at a place. -/
theorem Row.mk {w : World} {b off cap : Nat} {xs : List Int} (hl : xs.length ≤ cap) (hm : cap ≤ maxLen) (hc : ∀ i, i < xs.length → w.cell? ⟨b, off + i, none⟩ = some (.int .u8 (xs.getD i 0))) (hb : Bys xs) :
    Row w (.slice (some ⟨b, off, none⟩) xs.length cap) xs := by
  refine ⟨_, cap, rfl, hl, hm, by simp, ?_, hb⟩
  intro a ha j u hu
  obtain rfl := Option.some.inj ha
  obtain ⟨hj, rfl⟩ := bv_get hu
  rw [Addr.add_lit]
  exact hc j hj

/-- What is read is read when old memory has stayed. -/
theorem Row.kept {w w' : World} {v : Value} {xs : List Int} (h : Row w v xs) (hk : ∀ b o u, w.cell? ⟨b, o, none⟩ = some u → w'.cell? ⟨b, o, none⟩ = some u) : Row w' v xs := by
  by_cases h0 : xs = []
  · subst h0
    obtain ⟨ao, cap, rfl, h1, h2, h3, h4, h5⟩ := h
    exact ⟨ao, cap, rfl, h1, h2, h3, fun a _ j u hu => by simp [bv] at hu, h5⟩
  · obtain ⟨b, off, cap, hv, hl, hlt, hc⟩ := h.at h0
    have hm : cap ≤ maxLen := by
      obtain ⟨ao, c, hv', _, h2, _⟩ := h
      rw [hv] at hv'
      simp at hv'
      omega
    rw [hv]
    exact Row.mk hl hm (fun i hi => hk _ _ _ (hc i hi)) h.bys

theorem Row.below {w w' : World} {v : Value} {xs : List Int} (h : Row w v xs) (hb : Below w.heap.size w w') : Row w' v xs :=
  h.kept fun b o _ hc => (hb.cell (p := ⟨b, o, none⟩) (World.block_lt_of_cell? w _ hc)).trans hc

/-- The row that a call owns, and may hand on: from 'base' on. -/
def Own (base : Nat) (w : World) (v : Value) (xs : List Int) : Prop := w.ownsRow base 5 1 v xs.length (bv xs) ∧ Bys xs

theorem Own.row {base : Nat} {w : World} {v : Value} {xs : List Int} (h : Own base w v xs) : Row w v xs := by
  obtain ⟨ho, hb⟩ := h
  rcases ho.2 with ⟨rfl, hn⟩ | ⟨g, cap, cur, rfl, hbg, hg, hnc, hcm, hcs, htake⟩
  · have : xs = [] := List.eq_nil_of_length_eq_zero hn
    subst this; exact Row.nil w
  · refine ⟨_, cap, rfl, hnc, hcm, by simp, ?_, hb⟩
    intro a ha j u hu
    obtain rfl := Option.some.inj ha
    exact ho.cells (g := g) rfl j u hu

theorem Own.block {base : Nat} {w : World} {v : Value} {xs : List Int} (h : Own base w v xs) : ∀ k, v.ownBlock = some k → base ≤ k ∧ k < w.heap.size := h.1.lt

/-- The row is there when blocks below some number are as they were. -/
theorem Own.kept {base : Nat} {w w' : World} {v : Value} {xs : List Int} (h : Own base w v xs) (hb : Below w.heap.size w w') : Own base w' v xs :=
  ⟨h.1.kept (row := none) ⟨hb.os, hb.tape, hb.output, hb.size, fun k hk _ => hb.block k hk⟩ (by cases hv : v.ownBlock <;> simp), h.2⟩

/-- It may be asked from any smaller number on. -/
theorem Own.mono {base base' : Nat} {w : World} {v : Value} {xs : List Int} (h : Own base w v xs) (hb : base' ≤ base) : Own base' w v xs := by
  refine ⟨⟨h.1.1, ?_⟩, h.2⟩
  rcases h.1.2 with hn | ⟨g, cap, cur, hv, hbg, r⟩
  · exact .inl hn
  · exact .inr ⟨g, cap, cur, hv, Nat.le_trans hb hbg, r⟩

theorem grown_trans {a b c : World} {r : Option Nat} (h : a.grownBy b r) (k : b.grownBy c r) : a.grownBy c r :=
  ⟨k.os.trans h.os, k.tape.trans h.tape, k.output.trans h.output, Nat.le_trans h.size k.size, fun i hi hne => (k.block i (Nat.lt_of_lt_of_le hi h.size) hne).trans (h.block i hi hne)⟩

theorem Row.of_len {w : World} {v : Value} {xs : List Int} (h : Row w v xs) : ∃ ao cap, v = .slice ao xs.length cap := by
  obtain ⟨ao, cap, hv, _⟩ := h; exact ⟨ao, cap, hv⟩
end Go.Proofs.Ytgkmgpjhpplkiaa
