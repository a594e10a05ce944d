/-
  The contracts of package name: isSized, hasBarred, Right; and the document's RightName.
-/
import Derived.Test.YtgkmgpjhpplkiaaStrs
import Derived.Test.YtgkmgpjhpplkiaaNameP
import Derived.Test.YtgkmgpjhpplkiaaSays
import Derived.Laws.Tables
namespace Go.Proofs.Ytgkmgpjhpplkiaa
open Go.RowKit
set_option linter.unusedVariables false
set_option maxRecDepth 100000


/-! ### isSized -/
/-! ### hasBarred -/
/-- The array of the barred bytes. -/
def barC : Array Value := ((List.range 256).map fun i => Value.bool (i == 0 || i == 47)).toArray
def zerC : Array Value := ((List.range 256).map fun i => Value.bool false).toArray
theorem barC_size : barC.size = 256 := by simp [barC]
theorem zerC_size : zerC.size = 256 := by simp [zerC]
theorem barC_at {k : Nat} (h : k < 256) : barC[k]? = some (.bool (k == 0 || k == 47)) := by simp [barC, h]
theorem arr_one : barC.all (·.oneCell') = true := by kernel_rfl

theorem setRow_new (w : World) (old cs : Array Value) (t : TypeId) : (w.alloc (.cells old t)).setRow w.heap.size cs = w.alloc (.cells cs t) := by
  unfold World.setRow World.alloc
  congr 1
  apply Array.ext
  · simp
  · intro k h1 h2
    simp only [Array.getElem_modify]
    split
    · rename_i hk
      subst hk
      simp
    · rename_i hk
      have : k < w.heap.size := by simp at h1; omega
      simp [Array.getElem_push, this]
/-! ### Right -/
theorem eq_oneDot (s : ByteArray) : s = ⟨#[46]⟩ ↔ bl s = [46] := ⟨fun h => by rw [h]; rfl, fun h => bl_inj (h.trans rfl)⟩
theorem eq_twoDots (s : ByteArray) : s = ⟨#[46, 46]⟩ ↔ bl s = [46, 46] := ⟨fun h => by rw [h]; rfl, fun h => bl_inj (h.trans rfl)⟩
theorem eq_empty (s : ByteArray) : s = ⟨#[]⟩ ↔ bl s = [] := ⟨fun h => by rw [h]; rfl, fun h => bl_inj (h.trans rfl)⟩

/-! ### the document's RightName -/
end Go.Proofs.Ytgkmgpjhpplkiaa
