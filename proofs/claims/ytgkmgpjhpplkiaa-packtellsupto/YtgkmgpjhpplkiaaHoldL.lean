/-
  What a region that draws keeps: cells, blocks, rows, 'nothing elder has turned', step by step.
-/
import Derived.Test.YtgkmgpjhpplkiaaBlk
import Derived.Deep.RegionHeld3
namespace Go.Proofs.Ytgkmgpjhpplkiaa
open Go.RowKit
set_option linter.unusedVariables false

theorem kl_cell {w w' : World} {b o : Nat} {v : Value} (hb : Below w.heap.size w w') (h : w.cell? ⟨b, o, none⟩ = some v) : w'.cell? ⟨b, o, none⟩ = some v := (hb.cell (p := ⟨b, o, none⟩) (World.block_lt_of_cell? w _ h)).trans h
theorem kl_blk {w w' : World} {g : Array Value} {t : TypeId} {b : Nat} (hb : Below w.heap.size w w') (h : Blk w b g t) : Blk w' b g t := h.below hb h.lt
theorem kl_row {w w' : World} {v : Value} {xs : List Int} (hb : Below w.heap.size w w') (h : Row w v xs) : Row w' v xs := h.below hb
theorem kl_own {w w' : World} {v : Value} {xs : List Int} {base : Nat} (hb : Below w.heap.size w w') (h : Own base w v xs) : Own base w' v xs := h.kept hb
theorem kl_step {w0 w w' : World} (hb : Below w.heap.size w w') (h : Below w0.heap.size w0 w) : Below w0.heap.size w0 w' := h.trans (hb.mono h.size)
theorem kl_drew (w : World) : Below w.heap.size w w.drew := (Below.refl _ _).drew
theorem kl_alloc (w : World) (o : Obj) : Below w.heap.size w (w.alloc o) := (Below.refl _ _).alloc (Nat.le_refl _) o
end Go.Proofs.Ytgkmgpjhpplkiaa
