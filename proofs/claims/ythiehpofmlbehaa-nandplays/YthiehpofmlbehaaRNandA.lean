/-
  The document's own chip of pages (garretref01.Nand): made; where a page is; loaded.
-/
import Derived.Test.YthiehpofmlbehaaNandM
import Derived.Test.YthiehpofmlbehaaCuts
import Derived.Test.YthiehpofmlbehaaNandG
import Derived.Test.YthiehpofmlbehaaRefPow
import Derived.Deep.RegionHeld3
import Derived.BigQuiet
namespace Go.Proofs.Ythiehpofmlbehaa
open Go.RowKit
set_option linter.unusedVariables false
set_option maxRecDepth 100000

/-! ### blank -/
/-- The first k bytes are 255. -/
def halfFF (n k : Nat) : List Int := List.replicate k 255 ++ List.replicate (n - k) 0
theorem halfFF_length {n k : Nat} (h : k ≤ n) : (halfFF n k).length = n := by simp [halfFF]; omega
theorem halfFF_set {n k : Nat} (h : k < n) : (halfFF n k).set k 255 = halfFF n (k + 1) := by
  unfold halfFF
  rw [List.set_append_right _ _ (by simp), List.length_replicate, Nat.sub_self, show n - k = (n - (k + 1)) + 1 by omega, List.replicate_succ, List.replicate_succ']
  simp
/-- One more block. -/
def Step1 (w w' : World) (cs : Array Value) (t : TypeId) : Prop := Blk w' w.heap.size cs t ∧ Below w.heap.size w w' ∧ w'.heap.size = w.heap.size + 1
theorem Step1.alloc (w : World) (cs : Array Value) (t : TypeId) : Step1 w (w.alloc (.cells cs t)) cs t := ⟨Blk.new w cs t, (Below.refl _ _).alloc (Nat.le_refl _) _, by simp⟩
set_option maxHeartbeats 1000000 in
theorem blank5_any (w : World) (n : Nat) (hn : n ≤ 1000000) : Calls Try.prog 36 #[.int .i64 n] w fun e w' =>
    e = .returned (.slice (some ⟨w.heap.size, 0, none⟩) n n) ∧ Step1 w w' (bv (List.replicate n 255)).toArray 5 := by
  have m1 := run_make_bytes5 w n hn
  go_enter Try.func36, Try.ntmps36
  go_wp2_with fail
  go_loopw [4] (fun i wr => ∃ k : Nat, k ≤ n ∧ i = .int .i64 k ∧ Step1 w wr (bv (halfFF n k)).toArray 5) (fun i _ => n - (intOf i).toNat)
  case atStart => exact ⟨0, Nat.zero_le _, rfl, by simpa [halfFF] using Step1.alloc w _ _⟩
  case round =>
    obtain ⟨k, hk, rfl, hB, hg, hs⟩ := hrel
    by_cases hlt : k < n
    · obtain ⟨x, hx⟩ : ∃ x, (halfFF n k).getD k 0 = x := ⟨_, rfl⟩
      have hc : wr.cell? ⟨w.heap.size, k, none⟩ = some (.int .u8 x) := by rw [hB.cell k, List.getElem?_toArray, bv_at (by rw [halfFF_length hk]; exact hlt), hx]
      have hf := hB.frozen k
      have HR := hide (show Step1 w (wr.setCell ⟨w.heap.size, k, none⟩ (.int .u8 255)) (bv (halfFF n (k + 1))).toArray 5 by
        refine ⟨?_, hg.setCell (Nat.le_refl _) _, by simpa using hs⟩
        have := hB.set k (.int .u8 255)
        rw [← halfFF_set hlt, show bv ((halfFF n k).set k 255) = (bv (halfFF n k)).set k (.int .u8 255) from by simp [bv, List.map_set]]
        simpa using this)
      clear hB hg hs hx
      go_wp2
      exact ⟨⟨k + 1, by omega, by go_num, HR.out⟩, by simp [intOf]; omega⟩
    · obtain rfl : k = n := by omega
      have hR : Step1 w wr (bv (List.replicate k 255)).toArray 5 := by
        have e : halfFF k k = List.replicate k 255 := by simp [halfFF]
        rw [← e]
        exact ⟨hB, hg, hs⟩
      clear hB hg hs
      go_wp2
      go_ret
      exact ⟨rfl, hR⟩

/-! ### a new one -/
structure RLy where
  c : Nat
  pb : Nat
  bb : Nat
  bc : Nat
  nb : Nat
  eb : Nat
def rdcells (N : DSt) (M : RLy) : Array Value :=
  #[.int .i64 N.A, .int .i64 N.B, .int .i64 N.C, .int .i64 N.D, .int .i64 N.E, .pointer (some ⟨M.pb, 0, none⟩), .slice (some ⟨M.bb, 0, none⟩) N.bs.length M.bc, .slice (some ⟨M.nb, 0, none⟩) N.C N.C, .slice (some ⟨M.eb, 0, none⟩) N.C N.C]
/-- The document's chip in memory. -/
structure RChip (w : World) (M : RLy) (N : DSt) : Prop where
  blk : Blk w M.c (rdcells N M) 50
  byt : Own 0 w (.slice (some ⟨M.bb, 0, none⟩) N.bs.length M.bc) N.bs
  nxt : Blk w M.nb (iv .i64 N.nx).toArray 3
  ers : Blk w M.eb (iv .i64 N.er).toArray 3
  ne : (M.c ≠ M.bb ∧ M.c ≠ M.nb ∧ M.c ≠ M.eb ∧ M.bb ≠ M.nb ∧ M.bb ≠ M.eb ∧ M.nb ≠ M.eb) ∧ M.pb ≠ M.c ∧ M.pb ≠ M.bb ∧ M.pb ≠ M.nb ∧ M.pb ≠ M.eb
theorem RChip.only {w w' : World} {M : RLy} {N : DSt} (h : RChip w M N) {l : List Nat} (hO : Only l w w') (hl : M.c ∉ l ∧ M.bb ∉ l ∧ M.nb ∉ l ∧ M.eb ∉ l) : RChip w' M N :=
  ⟨h.blk.only hO hl.1, h.byt.only hO (fun k e => by cases e; exact hl.2.1), h.nxt.only hO hl.2.2.1, h.ers.only hO hl.2.2.2, h.ne⟩
theorem RChip.below {w w' : World} {M : RLy} {N : DSt} (h : RChip w M N) (hb : Below w.heap.size w w') : RChip w' M N := h.only (l := []) (only_below hb) (by simp)

/-- What a region that makes a chip holds. -/
abbrev HoldG5 (s : Nat) (a b c d e : Int) (w : World) : Prop :=
  (w.cell? ⟨s, 0, none⟩ = some (.int .i64 a) ∧ w.cell? ⟨s, 1, none⟩ = some (.int .i64 b) ∧ w.cell? ⟨s, 2, none⟩ = some (.int .i64 c) ∧ w.cell? ⟨s, 3, none⟩ = some (.int .i64 d) ∧ w.cell? ⟨s, 4, none⟩ = some (.int .i64 e)) ∧ Blk w s (gcells a b c d e) 23
theorem holdG5_of {s : Nat} {a b c d e : Int} {w : World} (h : Blk w s (gcells a b c d e) 23) : HoldG5 s a b c d e w :=
  ⟨⟨(h.cell 0).trans rfl, (h.cell 1).trans rfl, (h.cell 2).trans rfl, (h.cell 3).trans rfl, (h.cell 4).trans rfl⟩, h⟩
theorem holdG5_below {s : Nat} {a b c d e : Int} {w w' : World} (hb : Below w.heap.size w w') (h : HoldG5 s a b c d e w) : HoldG5 s a b c d e w' := holdG5_of (h.2.below hb h.2.lt)
theorem holdG5_alloc {s : Nat} {a b c d e : Int} {w : World} (o : Obj) (h : HoldG5 s a b c d e w) : HoldG5 s a b c d e (w.alloc o) := holdG5_below ((Below.refl _ _).alloc (Nat.le_refl _) _) h
theorem holdG5_drew {s : Nat} {a b c d e : Int} {w : World} (h : HoldG5 s a b c d e w) : HoldG5 s a b c d e w.drew := holdG5_below (Below.refl _ _).drew h
end Go.Proofs.Ythiehpofmlbehaa
