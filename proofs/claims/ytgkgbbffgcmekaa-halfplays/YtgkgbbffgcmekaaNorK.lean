/-
  A new chip with a new power; a device that a walk keeps.
-/
import Derived.Test.YtgkgbbffgcmekaaNorD
import Derived.Test.YtgkgbbffgcmekaaHelp
namespace Go.Proofs.Ytgkgbbffgcmekaa
open Go.RowKit
set_option linter.unusedVariables false
set_option maxRecDepth 100000

/-- What a region that makes a chip holds. -/
abbrev HoldG (s : Nat) (a b c d e : Int) (w : World) : Prop :=
  (w.cell? ⟨s, 0, none⟩ = some (.int .i64 a) ∧ w.cell? ⟨s, 1, none⟩ = some (.int .i64 b) ∧ w.cell? ⟨s, 2, none⟩ = some (.int .i64 c) ∧ w.cell? ⟨s, 3, none⟩ = some (.int .i64 d) ∧ w.cell? ⟨s, 4, none⟩ = some (.int .i64 e)) ∧ Blk w s (gcells a b c d e) 23
theorem holdG_of {s : Nat} {a b c d e : Int} {w : World} (h : Blk w s (gcells a b c d e) 23) : HoldG s a b c d e w :=
  ⟨⟨(h.cell 0).trans rfl, (h.cell 1).trans rfl, (h.cell 2).trans rfl, (h.cell 3).trans rfl, (h.cell 4).trans rfl⟩, h⟩
theorem holdG_below {s : Nat} {a b c d e : Int} {w w' : World} (hb : Below w.heap.size w w') (h : HoldG s a b c d e w) : HoldG s a b c d e w' := holdG_of (h.2.below hb h.2.lt)
theorem holdG_alloc {s : Nat} {a b c d e : Int} {w : World} (o : Obj) (h : HoldG s a b c d e w) : HoldG s a b c d e (w.alloc o) := holdG_below ((Below.refl _ _).alloc (Nat.le_refl _) _) h
theorem holdG_drew {s : Nat} {a b c d e : Int} {w : World} (h : HoldG s a b c d e w) : HoldG s a b c d e w.drew := holdG_below (Below.refl _ _).drew h

theorem only_drew (w : World) : Only [] w w.drew := only_grown (grown_drew w none) (by simp)
theorem only_drewN (w : World) (m : Nat) : Only [] w (w.drewN m) := only_grown (grown_drewN w m none) (by simp)
theorem PowN.new (w : World) (base : Nat) (hb : w.heap.size < base) : PowN base (w.alloc (.cells (pcells PSt.zero none) 67)) w.heap.size PSt.zero :=
  ⟨Blk.new _ _ _, rfl, hb⟩
theorem PSt.zero_ok (n : Nat) : PSt.zero.Ok n := ⟨by decide, by simp [PSt.zero]; try omega, by decide, by decide, by decide⟩
def NSt.new (A B : Nat) (c d e : Int) : NSt := ⟨A, B, c, d, e, List.replicate (A * B) 255, List.replicate A 0⟩
theorem NSt.new_ok {A B : Nat} {c d e : Int} (hr : rightS A B c d e = true) (n : Nat) : (NSt.new A B c d e).Ok n := by
  have hu := rightS_of hr
  refine ⟨?_, ?_, ?_, ?_, ?_, ?_, ?_, ?_⟩
  · show 2 ≤ A; omega
  · show A ≤ 16; omega
  · show 256 ≤ B; omega
  · show B ≤ 4096; omega
  · simp [NSt.new]
  · simp [NSt.new]
  · intro x hx; simp [NSt.new] at hx; omega
  · intro x hx; simp [NSt.new] at hx; omega
theorem Made.chip {t : TypeId} {w w' : World} {k bb eb A B pb : Nat} {c d e : Int} (h : Made t w w' k bb eb A B c d e (some ⟨pb, 0, none⟩)) (hpb : pb < w.heap.size) (base : Nat) (hb : w'.heap.size ≤ base) : Chip t base w' ⟨k, pb, bb, eb⟩ (NSt.new A B c d e) := by
  have h1 := h.blk.lt
  have h2 := h.byt.lt
  have h3 := h.ers.lt
  have h4 := h.below.size
  obtain ⟨l1, l2, l3⟩ := h.lo
  obtain ⟨n1, n2, n3⟩ := h.ne
  refine ⟨h.blk, h.byt, h.ers, ⟨?_, ?_, ?_, ?_⟩, ?_, ?_, ?_, ?_, ?_, ?_⟩ <;> simp only <;> omega

/-- A device that the walk keeps: its blocks are younger than w0, and nothing elder has turned. -/
structure Kept (w0 : World) (base : Nat) (w : World) (L : Lay) (S : PSt) (N : NSt) : Prop where
  dev : Dev base w L S N
  lo : w0.heap.size ≤ L.c ∧ w0.heap.size ≤ L.pb ∧ w0.heap.size ≤ L.bb ∧ w0.heap.size ≤ L.eb
  size : base ≤ w.heap.size
  below : Below w0.heap.size w0 w
theorem Dev.still {base : Nat} {w w' : World} {L : Lay} {S : PSt} {N : NSt} (h : Dev base w L S N) (hg : Only [] w w') : Dev base w' L S N :=
  ⟨h.1.only hg (by simp), h.2.only hg (by simp) (by simp) (by simp)⟩
theorem Kept.still {w0 : World} {base : Nat} {w w' : World} {L : Lay} {S : PSt} {N : NSt} (h : Kept w0 base w L S N) (hg : Only [] w w') : Kept w0 base w' L S N :=
  ⟨h.dev.still hg, h.lo, Nat.le_trans h.size hg.size, hg.below h.below (by simp) (by have := h.lo.1; have := h.dev.2.lt.1; have := h.size; omega)⟩
theorem Kept.turn {w0 : World} {base : Nat} {w w' : World} {L : Lay} {S S' : PSt} {N N' : NSt} (h : Kept w0 base w L S N) (hd : Dev base w' L S' N') (hg : Only [L.pb, L.bb, L.eb] w w') : Kept w0 base w' L S' N' := by
  obtain ⟨l1, l2, l3, l4⟩ := h.lo
  refine ⟨hd, h.lo, Nat.le_trans h.size hg.size, hg.below h.below ?_ (by have := h.dev.2.lt.1; have := h.size; omega)⟩
  intro k hk
  simp at hk
  rcases hk with rfl | rfl | rfl <;> assumption
theorem Kept.alloc {w0 : World} {base : Nat} {w : World} {L : Lay} {S : PSt} {N : NSt} (h : Kept w0 base w L S N) (o : Obj) : Kept w0 base (w.alloc o) L S N := h.still (only_grown (World.grownBy_alloc _ _ none) (by simp))
theorem Kept.below' {w0 : World} {base : Nat} {w w' : World} {L : Lay} {S : PSt} {N : NSt} (h : Kept w0 base w L S N) (hb : Below w.heap.size w w') : Kept w0 base w' L S N := h.still (only_below hb)
/-- Made behind w0. -/
theorem Made.kept {w0 w1 w2 w' : World} {k bb eb A B : Nat} {c d e : Int} (hb : Below w0.heap.size w0 w1) (hw : w2 = w1.alloc (.cells (pcells PSt.zero none) 67)) (h : Made 70 w2 w' k bb eb A B c d e (some ⟨w1.heap.size, 0, none⟩)) :
    Kept w0 w'.heap.size w' ⟨k, w1.heap.size, bb, eb⟩ PSt.zero (NSt.new A B c d e) := by
  have hs := hb.size
  have hs2 : w2.heap.size = w1.heap.size + 1 := by rw [hw]; simp
  have hs3 := h.below.size
  have hP : PowN w'.heap.size w2 w1.heap.size PSt.zero := hw ▸ PowN.new w1 _ (by omega)
  obtain ⟨l1, l2, l3⟩ := h.lo
  refine ⟨⟨hP.only (l := []) (only_below h.below) (by simp), h.chip (by omega) _ (Nat.le_refl _)⟩, ⟨?_, ?_, ?_, ?_⟩, Nat.le_refl _, ?_⟩
  · simp only; omega
  · simp only; omega
  · simp only; omega
  · simp only; omega
  · have h1 : Below w0.heap.size w0 w2 := hw ▸ hb.alloc hs _
    exact h1.trans (h.below.mono (by omega))

theorem rep_at (n j : Nat) (h : j < n) : (List.replicate n (255 : Int)).getD j 0 = 255 := by simp [List.getD, h]

/-- Bytes in a new block. -/
theorem row_new (w : World) (xs : List Int) (hx : Bys xs) (hl : xs.length ≤ 1000000) : Row (w.alloc (.cells (bv xs).toArray 5)) (.slice (some ⟨w.heap.size, 0, none⟩) xs.length xs.length) xs := by
  have hb := Blk.new w (bv xs).toArray 5
  refine Row.mk (off := 0) (Nat.le_refl _) (by unfold maxLen; omega) (fun i hi => ?_) hx
  rw [Nat.zero_add]
  exact hb.byteAt hi
theorem prog_ok_one (S S' : PSt) (bs : List Int) (x : Int) (h1 : 1 ≤ bs.length) (h2 : bits .andNot .u8 x (bs.getD 0 0) = 0) (hs : S.step = (true, false, S')) : progA S bs 0 [x] = (0, S', bs.set 0 x) := by
  have h : hasS bs.length 0 (([x] : List Int).length) = true := by simp [hasS]; omega
  unfold progA
  rw [h, if_pos rfl, show ((0 : Int).toNat) = 0 from rfl]
  simp only [sets, h2, progS, hs]
  rfl
theorem prog_bits_one (S : PSt) (bs : List Int) (x : Int) (h1 : 1 ≤ bs.length) (h2 : bits .andNot .u8 x (bs.getD 0 0) ≠ 0) : progA S bs 0 [x] = (9, S, bs) := by
  have h : hasS bs.length 0 (([x] : List Int).length) = true := by simp [hasS]; omega
  have h3 : (bits .andNot .u8 x (bs.getD 0 0) != 0) = true := by simpa using h2
  unfold progA
  rw [h, if_pos rfl, show ((0 : Int).toNat) = 0 from rfl]
  simp only [sets, h3]
  rfl
theorem read_two (bs : List Int) (x : Int) (n : Nat) (hb : bs = List.replicate n 255) (hn : 2 ≤ n) : readS (bs.set 0 x) 0 2 = (0, [x, 255]) := by
  subst hb
  unfold readS
  have h1 : hasS ((List.replicate n (255 : Int)).set 0 x).length 0 2 = true := by simp [hasS]; omega
  rw [h1, if_pos rfl]
  obtain ⟨m, rfl⟩ : ∃ m, n = m + 2 := ⟨n - 2, by omega⟩
  simp [List.replicate_succ]

end Go.Proofs.Ytgkgbbffgcmekaa
