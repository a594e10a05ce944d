/-
  A device that a walk keeps.
-/
import Derived.Test.YtgkgbbffgcmekaaTornP
namespace Go.Proofs.Ytgkgbbffgcmekaa
open Go.RowKit
set_option linter.unusedVariables false
set_option maxRecDepth 100000

/-- Made behind w0; the power ahead of other things. -/
theorem Made.kept2 {w0 w1 w2 w3 w' : World} {k bb eb A B : Nat} {c d e : Int} (hb : Below w0.heap.size w0 w1) (hw : w2 = w1.alloc (.cells (pcells PSt.zero none) 67)) (hb3 : Below w2.heap.size w2 w3) (h : Made 70 w3 w' k bb eb A B c d e (some ⟨w1.heap.size, 0, none⟩)) :
    Kept w0 w'.heap.size w' ⟨k, w1.heap.size, bb, eb⟩ PSt.zero (NSt.new A B c d e) := by
  have hs := hb.size
  have hs2 : w2.heap.size = w1.heap.size + 1 := by rw [hw]; simp
  have hs3 := h.below.size
  have hs4 := hb3.size
  have hP : PowN w'.heap.size w2 w1.heap.size PSt.zero := hw ▸ PowN.new w1 _ (by omega)
  obtain ⟨l1, l2, l3⟩ := h.lo
  refine ⟨⟨(hP.only (l := []) (only_below hb3) (by simp)).only (l := []) (only_below h.below) (by simp), h.chip (by omega) _ (Nat.le_refl _)⟩, ⟨?_, ?_, ?_, ?_⟩, Nat.le_refl _, ?_⟩
  · simp only; omega
  · simp only; omega
  · simp only; omega
  · simp only; omega
  · have h1 : Below w0.heap.size w0 w2 := hw ▸ hb.alloc hs _
    exact (h1.trans (hb3.mono (by omega))).trans (h.below.mono (by omega))
theorem Kept.pow {w0 : World} {base : Nat} {w w' : World} {L : Lay} {S S' : PSt} {N : NSt} (h : Kept w0 base w L S N) (hp : PowN base w' L.pb S') (hg : w.grownBy w' (some L.pb)) : Kept w0 base w' L S' N :=
  h.turn (h.dev.step hp hg) (only_grown hg (fun k e => by cases e; simp))
theorem Own.from {base : Nat} {w : World} {v : Value} {xs : List Int} (h : Own base w v xs) : ∀ b off n cap, v = .slice (some ⟨b, off, none⟩) n cap → base ≤ b := by
  intro b off n cap hv
  rcases h.1.2 with ⟨rfl, _⟩ | ⟨g, cap', cur, rfl, hbg, _⟩
  · simp at hv
  · simp at hv
    omega
theorem Kept.apart {w0 : World} {base : Nat} {w : World} {L : Lay} {S : PSt} {N : NSt} (h : Kept w0 base w L S N) {v : Value} (hv : ∀ b off n cap, v = .slice (some ⟨b, off, none⟩) n cap → base ≤ b) {m : Nat} : 0 < m → ∀ vb off n cap, v = .slice (some ⟨vb, off, none⟩) n cap → vb ∉ [L.pb, L.bb] := by
  intro _ vb off n cap e hm
  have := hv vb off n cap e
  obtain ⟨l1, l2, l3, l4⟩ := h.dev.2.lt
  simp at hm
  rcases hm with rfl | rfl <;> omega
theorem Kept.apart0 {w0 : World} {base : Nat} {w : World} {L : Lay} {S : PSt} {N : NSt} (h : Kept w0 base w L S N) {v : Value} {xs : List Int} (hv : Row w0 v xs) : 0 < xs.length → ∀ vb off n cap, v = .slice (some ⟨vb, off, none⟩) n cap → vb ∉ [L.pb, L.bb] := by
  intro h0 vb off n cap e hm
  obtain ⟨b', off', cap', hv', _, hlt, _⟩ := hv.at (List.length_pos_iff.1 h0)
  rw [e] at hv'
  simp at hv'
  obtain ⟨l1, l2, l3, l4⟩ := h.lo
  simp at hm
  obtain ⟨⟨rfl, rfl⟩, _⟩ := hv'
  rcases hm with rfl | rfl <;> omega

theorem Kept.other {w0 : World} {base g : Nat} {w w' : World} {L : Lay} {S : PSt} {N : NSt} (h : Kept w0 base w L S N) (hg : Only [g] w w') (hb : base ≤ g) : Kept w0 base w' L S N := by
  obtain ⟨l1, l2, l3, l4⟩ := h.dev.2.lt
  obtain ⟨k1, k2, k3, k4⟩ := h.lo
  have hs := h.size
  refine ⟨⟨h.dev.1.only hg (by simp; omega), h.dev.2.only hg (by simp; omega) (by simp; omega) (by simp; omega)⟩, h.lo, Nat.le_trans h.size hg.size, hg.below h.below (by simp; omega) (by omega)⟩

theorem Kept.rowKept {w0 : World} {base : Nat} {w w' : World} {L : Lay} {S : PSt} {N : NSt} (h : Kept w0 base w L S N) {v : Value} {xs : List Int} (hv : ∀ b off n cap, v = .slice (some ⟨b, off, none⟩) n cap → base ≤ b) (hr : Row w v xs) (hO : Only [L.pb, L.bb, L.eb] w w') : Row w' v xs := by
  refine hr.only hO (fun b off n cap e hm => ?_)
  have := hv b off n cap e
  obtain ⟨l1, l2, l3, l4⟩ := h.dev.2.lt
  simp at hm
  rcases hm with rfl | rfl | rfl <;> omega
theorem min_exit {lb la k : Nat} (h1 : k ≤ lb) (h2 : k ≤ la) (h : ¬ (k < lb ∧ k < la)) : min lb la = k := by omega
end Go.Proofs.Ytgkgbbffgcmekaa
