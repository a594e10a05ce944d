/-
  garretlaw06's awake.
-/
import Derived.Test.YtfacmeblldljdaaTagB
import Derived.Test.YtfacmeblldljdaaTagC
import Derived.Test.YtfacmeblldljdaaTagQ
namespace Go.Proofs.Ytfacmeblldljdaa
open Go.RowKit
set_option linter.unusedVariables false

set_option maxHeartbeats 1000000 in
theorem awake_any (w : World) : Calls Try.prog 7 #[] w fun e w' => e = .returned (.bool true) ∧ Below w.heap.size w w' := by
  have hb0 : Below w.heap.size w (w.alloc (.cells #[.int .u8 5] 5)) := (Below.refl _ _).alloc (Nat.le_refl _) _
  go_enter Try.func7, Try.ntmps7
  go_wp2_with fail
  refine (TOf_any _ _ [5] 3 4 (row_new1 w 5 (by omega))).mono ?_
  rintro e w1 ⟨rfl, hb1⟩
  rw [show sumS [5] = 393222 from rfl]
  go_wp2_with fail
  refine (Write_any w1 3 4 393222 (by omega)).mono ?_
  rintro e w2 ⟨u, rfl, ho2, hb2⟩
  have ho : Own w1.heap.size w2 u (tagW 3 4 393222) := ho2
  have HO := hide ho
  clear ho ho2
  go_wp2_with fail
  refine (Read_any w2 u _ HO.out.row).mono ?_
  rintro e w3 ⟨rfl, hb3⟩
  rw [readS_tagW rfl rfl (by omega)]
  have hB : Below w.heap.size w w3 := ((hb0.trans (hb1.mono hb0.size)).trans (hb2.mono (Nat.le_trans hb0.size hb1.size))).trans (hb3.mono (Nat.le_trans hb0.size (Nat.le_trans hb1.size hb2.size)))
  unfold tcells
  have hE : (writeS 3 4 393222).2 = 0 := rfl
  rw [hE]
  go_wp2
  go_ret
  exact ⟨rfl, hB.alloc hB.size _⟩
end Go.Proofs.Ytfacmeblldljdaa
