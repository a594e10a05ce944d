/-
  Two devices that a walk keeps side by side: the program's and the document's.
-/
import Derived.Test.YtgkgbbffgcmekaaKeptN
import Derived.Test.YtgkgbbffgcmekaaRefErase
namespace Go.Proofs.Ytgkgbbffgcmekaa
open Go.RowKit
set_option linter.unusedVariables false

structure Two (w0 : World) (base : Nat) (w : World) (L M : Lay) (S : PSt) (N : NSt) (S2 : PSt) (N2 : NSt) : Prop where
  dev : Dev base w L S N
  ref : RDev base w M S2 N2
  loL : w0.heap.size ≤ L.c ∧ w0.heap.size ≤ L.pb ∧ w0.heap.size ≤ L.bb ∧ w0.heap.size ≤ L.eb
  loM : w0.heap.size ≤ M.c ∧ w0.heap.size ≤ M.pb ∧ w0.heap.size ≤ M.bb ∧ w0.heap.size ≤ M.eb
  sep : ∀ x ∈ [L.c, L.pb, L.bb, L.eb], x ∉ [M.c, M.pb, M.bb, M.eb]
  size : base ≤ w.heap.size
  below : Below w0.heap.size w0 w
section
variable {w0 : World} {base : Nat} {w w' : World} {L M : Lay} {S S' S2 : PSt} {N N' N2 : NSt}
theorem Two.old (h : Two w0 base w L M S N S2 N2) : w0.heap.size ≤ w.heap.size := by have := h.loL.1; have := h.dev.2.lt.1; have := h.size; omega
theorem Two.still (h : Two w0 base w L M S N S2 N2) (hg : Only [] w w') : Two w0 base w' L M S N S2 N2 :=
  ⟨h.dev.still hg, h.ref.still hg, h.loL, h.loM, h.sep, Nat.le_trans h.size hg.size, hg.below h.below (by simp) h.old⟩
theorem Two.below' (h : Two w0 base w L M S N S2 N2) (hb : Below w.heap.size w w') : Two w0 base w' L M S N S2 N2 := h.still (only_below hb)
theorem Two.alloc (h : Two w0 base w L M S N S2 N2) (o : Obj) : Two w0 base (w.alloc o) L M S N S2 N2 := h.still (only_grown (World.grownBy_alloc _ _ none) (by simp))
theorem Two.turnL (h : Two w0 base w L M S N S2 N2) (hd : Dev base w' L S' N') (hg : Only [L.pb, L.bb, L.eb] w w') : Two w0 base w' L M S' N' S2 N2 := by
  obtain ⟨l1, l2, l3, l4⟩ := h.loL
  have s := h.sep
  have hn : ∀ y, y ∈ [M.c, M.pb, M.bb, M.eb] → y ∉ [L.pb, L.bb, L.eb] := by
    intro y hy hm
    exact s y (by simp at hm ⊢; rcases hm with e | e | e <;> simp [e]) hy
  refine ⟨hd, ⟨h.ref.1.only hg (fun k hk e => hn M.pb (by simp) (e ▸ hk)), h.ref.2.only hg (hn _ (by simp)) (hn _ (by simp)) (hn _ (by simp))⟩, h.loL, h.loM, h.sep, Nat.le_trans h.size hg.size, hg.below h.below ?_ h.old⟩
  intro k hk
  simp at hk
  rcases hk with rfl | rfl | rfl <;> assumption
theorem Two.turnR (h : Two w0 base w L M S N S2 N2) (hd : RDev base w' M S' N') (hg : Only [M.pb, M.bb, M.eb] w w') : Two w0 base w' L M S N S' N' := by
  obtain ⟨l1, l2, l3, l4⟩ := h.loM
  have s := h.sep
  have hn : ∀ y, y ∈ [L.c, L.pb, L.bb, L.eb] → y ∉ [M.pb, M.bb, M.eb] := by
    intro y hy hm
    exact s y hy (by simp at hm ⊢; rcases hm with e | e | e <;> simp [e])
  refine ⟨⟨h.dev.1.only hg (fun k hk e => hn L.pb (by simp) (e ▸ hk)), h.dev.2.only hg (hn _ (by simp)) (hn _ (by simp)) (hn _ (by simp))⟩, hd, h.loL, h.loM, h.sep, Nat.le_trans h.size hg.size, hg.below h.below ?_ h.old⟩
  intro k hk
  simp at hk
  rcases hk with rfl | rfl | rfl <;> assumption
theorem Two.powL (h : Two w0 base w L M S N S2 N2) (hp : PowN base w' L.pb S') (hg : w.grownBy w' (some L.pb)) : Two w0 base w' L M S' N S2 N2 :=
  h.turnL (h.dev.step hp hg) (only_grown hg (fun k e => by cases e; simp))
theorem Two.powR (h : Two w0 base w L M S N S2 N2) (hp : RPowN base w' M.pb S') (hg : w.grownBy w' (some M.pb)) : Two w0 base w' L M S N S' N2 :=
  h.turnR (h.ref.step hp hg) (only_grown hg (fun k e => by cases e; simp))
/-- A block of which neither has anything. -/
theorem Two.other {g : Nat} (h : Two w0 base w L M S N S2 N2) (hg : Only [g] w w') (hb : base ≤ g) : Two w0 base w' L M S N S2 N2 := by
  obtain ⟨l1, l2, l3, l4⟩ := h.dev.2.lt
  obtain ⟨m1, m2, m3, m4⟩ := h.ref.2.lt
  have ho := h.old
  obtain ⟨k1, k2, k3, k4⟩ := h.loL
  refine ⟨⟨h.dev.1.only hg (by simp; omega), h.dev.2.only hg (by simp; omega) (by simp; omega) (by simp; omega)⟩, ⟨h.ref.1.only hg (by simp; omega), h.ref.2.only hg (by simp; omega) (by simp; omega) (by simp; omega)⟩, h.loL, h.loM, h.sep, Nat.le_trans h.size hg.size, hg.below h.below (by simp; omega) h.old⟩
/-- Blocks from base on are neither's. -/
theorem Two.farL (h : Two w0 base w L M S N S2 N2) {g : Nat} (hg : base ≤ g) : g ∉ [L.pb, L.bb, L.eb] := by
  obtain ⟨l1, l2, l3, l4⟩ := h.dev.2.lt
  simp; omega
theorem Two.farR (h : Two w0 base w L M S N S2 N2) {g : Nat} (hg : base ≤ g) : g ∉ [M.pb, M.bb, M.eb] := by
  obtain ⟨l1, l2, l3, l4⟩ := h.ref.2.lt
  simp; omega
end
theorem RPowN.new (w : World) (base : Nat) (hb : w.heap.size < base) : RPowN base (w.alloc (.cells (rcells PSt.zero (.slice none 0 0)) 45)) w.heap.size PSt.zero :=
  ⟨Blk.new _ _ _, rfl, hb⟩

/-- Both made: p, q, the program's chip, the document's. -/
theorem two_made {w0 w1 w2 w3 w4 : World} {k bb eb k' bb' eb' A B : Nat} {c d e : Int} (hb : Below w0.heap.size w0 w1) (hw : w2 = (w1.alloc (.cells (pcells PSt.zero none) 67)).alloc (.cells (rcells PSt.zero (.slice none 0 0)) 45))
    (h : Made 70 w2 w3 k bb eb A B c d e (some ⟨w1.heap.size, 0, none⟩)) (h' : Made 74 w3 w4 k' bb' eb' A B c d e (some ⟨w1.heap.size + 1, 0, none⟩)) :
    Two w0 w4.heap.size w4 ⟨k, w1.heap.size, bb, eb⟩ ⟨k', w1.heap.size + 1, bb', eb'⟩ PSt.zero (NSt.new A B c d e) PSt.zero (NSt.new A B c d e) := by
  have hs := hb.size
  have hs2 : w2.heap.size = w1.heap.size + 2 := by rw [hw]; simp
  have hs3 := h.below.size
  have hs4 := h'.below.size
  have hP : PowN w4.heap.size w2 w1.heap.size PSt.zero := hw ▸ (PowN.new w1 _ (by omega)).kept (World.grownBy_alloc _ _ none) (by simp)
  have hR : RPowN w4.heap.size w2 (w1.heap.size + 1) PSt.zero := by
    have := RPowN.new (w1.alloc (.cells (pcells PSt.zero none) 67)) w4.heap.size (by simp; omega)
    rw [hw]; simpa using this
  obtain ⟨l1, l2, l3⟩ := h.lo
  obtain ⟨m1, m2, m3⟩ := h'.lo
  have hC := h.chip (by omega) w4.heap.size (by omega)
  have hC' := h'.chip (by omega) w4.heap.size (Nat.le_refl _)
  have b1 := h.blk.lt
  have b2 := h.byt.lt
  have b3 := h.ers.lt
  refine ⟨⟨(hP.only (l := []) (only_below h.below) (by simp)).only (l := []) (only_below h'.below) (by simp), hC.only (l := []) (only_below h'.below) (by simp) (by simp) (by simp)⟩,
    ⟨(hR.only (l := []) (only_below h.below) (by simp)).only (l := []) (only_below h'.below) (by simp), hC'⟩, ⟨?_, ?_, ?_, ?_⟩, ⟨?_, ?_, ?_, ?_⟩, ?_, Nat.le_refl _, ?_⟩
  · simp only; omega
  · simp only; omega
  · simp only; omega
  · simp only; omega
  · simp only; omega
  · simp only; omega
  · simp only; omega
  · simp only; omega
  · intro x hx
    simp at hx ⊢
    omega
  · have h1 : Below w0.heap.size w0 w2 := hw ▸ (hb.alloc hs _).alloc (by simp; omega) _
    exact (h1.trans (h.below.mono (by omega))).trans (h'.below.mono (by omega))
end Go.Proofs.Ytgkgbbffgcmekaa
