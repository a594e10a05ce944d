/-
  The laws of pack: awake.
-/
import Derived.Test.YtgkmgpjhpplkiaaPackV
import Derived.Test.YtgkmgpjhpplkiaaPackT
import Derived.Test.YtgkmgpjhpplkiaaSays
namespace Go.Proofs.Ytgkmgpjhpplkiaa
open Go.RowKit
set_option linter.unusedVariables false
set_option maxRecDepth 100000

theorem DMade.row {base : Nat} {w : World} {v : Value} {l : List Dv} (h : DMade base w v l) : DRow w v l := h.own.row
theorem parse_awake : parseS (packL [⟨4, 5, noI⟩]) = ([⟨4, 5, noI⟩], 0) := parse_pack (by intro d hd; rw [List.mem_singleton] at hd; subst hd; exact .inl ⟨by simp, by unfold In64; simp, rfl⟩)

set_option maxHeartbeats 4000000 in
theorem awake_any (w : World) : Calls Try.prog 9 #[] w (SaysB true w) := by
  have hw0 : DRow (w.alloc (.cells #[.int .i64 4, .int .i64 5, .int .i64 0, .int .i64 0, .int .i64 0, .int .i64 0, .string ByteArray.empty, .slice none 0 0, .slice none 0 0] 38)) (.slice (some ⟨w.heap.size, 0, none⟩) 1 1) [⟨⟨4, 5, noI⟩, .slice none 0 0, .slice none 0 0⟩] :=
    deed_new w _ (dv_num (wf_i64 (by decide) (by decide)) (wf_i64 (by decide) (by decide))) ⟨ERow.nil w, RRow.nil w⟩ _ _ rfl
  have HB0 := hide (kl_alloc w (.cells #[.int .i64 4, .int .i64 5, .int .i64 0, .int .i64 0, .int .i64 0, .int .i64 0, .string ByteArray.empty, .slice none 0 0, .slice none 0 0] 38))
  have hC := Deeds_any _ _ _ hw0 (by show (packL [⟨4, 5, noI⟩]).length ≤ 1000000; decide)
  have hp := parse_awake
  clear hw0
  obtain ⟨X, hX⟩ : ∃ X, X = packL [⟨4, 5, noI⟩] := ⟨_, rfl⟩
  have hXl : X.length ≤ 1000000 := by rw [hX]; decide
  rw [← hX] at hp
  rw [show packL ([(⟨⟨4, 5, noI⟩, .slice none 0 0, .slice none 0 0⟩ : Dv)].map Dv.d) = X from hX.symm] at hC
  have HC := hide hC
  clear hX hC
  have HP := hide hp
  have HL := hide hXl
  clear hp hXl
  go_enter Try.func9, Try.ntmps9
  go_wp2_with fail
  refine HC.out.mono ?_
  rintro e w1 ⟨u1, rfl, ho1, hb1⟩
  have HB1 := hide (kl_step hb1 HB0.out)
  have HC2 := hide (Parse_any w1 u1 X ho1.row HL.out)
  rw [HP.out] at HC2
  clear HC HB0 ho1 hb1
  go_wp2_with fail
  refine HC2.out.mono ?_
  rintro e w2 ⟨u2, ds, rfl, hd, hm, hb2⟩
  have HB2 := hide (kl_step hb2 HB1.out)
  obtain ⟨x, hx⟩ : ∃ x, ds = [x] := by
    have := congrArg List.length hm
    simp at this
    exact List.length_eq_one_iff.1 this
  subst hx
  simp at hm
  have hlen := hd.row.lenRun
  simp only [List.length_singleton] at hlen
  obtain ⟨b, o, hlt, hidx, hc⟩ := hd.row.idx 0 (by simp)
  have c1 : w2.cell? ⟨b, o + 1, none⟩ = some (.int .i64 5) := hc 1 _ (by simp [hm, Dv.cells])
  have hidx0 : ∀ w', (Instr.indexAt 22 u2 (.int .i64 0)).run Try.prog w' = .ok (.pointer (some ⟨b, o, none⟩)) w' := hidx
  clear hc hm hd hb2 HC2 hidx
  go_wp2
  (try go_ret)
  exact ⟨rfl, HB2.out⟩
end Go.Proofs.Ytgkmgpjhpplkiaa
