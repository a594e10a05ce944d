/-
  Rows of integers by equations: their length, a place of theirs; 'int(uint(c) % m)'.
-/
import Derived.Test.YtgkmgpjhpplkiaaRows2
namespace Go.Proofs.Ytgkmgpjhpplkiaa
open Go.RowKit
set_option linter.unusedVariables false

theorem sizeII (w : World) : (sizeOf (Try.prog.elem 75)).run Try.prog w = .ok 1 w := by kernel_rfl
theorem intsTyI : Try.prog.underlying 75 = some (.slice (Try.prog.elem 75)) := Try.underlying75
theorem IRow.lenII {w : World} {v : Value} {xs : List Int} (h : IRow .i64 w v xs) (w' : World) (ty : TypeId) : (Builtin.len_ #[75] ty #[v]).run Try.prog w' = .ok (.int .i64 xs.length) w' := by
  obtain ⟨ao, cap, rfl⟩ := h.of_len
  simp [Builtin.len_, run_underlying intsTyI, goInt]
theorem IRow.idxII {w : World} {v : Value} {xs : List Int} (h : IRow .i64 w v xs) (k : Nat) (hk : k < xs.length) :
    ∃ b o : Nat, b < w.heap.size ∧ (∀ w', (Instr.indexAt 75 v (.int .i64 k)).run Try.prog w' = .ok (.pointer (some ⟨b, o, none⟩)) w') ∧ w.cell? ⟨b, o, none⟩ = some (.int .i64 (xs.getD k 0)) := by
  obtain ⟨b, off, cap, rfl, hlt, hc⟩ := h.at (by omega)
  refine ⟨b, off + k, hlt, fun w' => ?_, hc k hk⟩
  rw [run_indexAt_slice _ _ _ _ _ _ _ intsTyI]
  simp [sizeII, Result.andThen, hk, Addr.add_lit]

/-- 'int(uint(c) % m)'. -/
theorem cut_i (c m : Int) (h : 0 < m) (hm : m ≤ 1099511627776) : ∃ k : Nat, (k : Int) < m ∧ wrap64 ((IntKind.u64.wrap c).tmod m) = (k : Int) := by
  have h0 : 0 ≤ c % 18446744073709551616 % m := Int.emod_nonneg _ (by omega)
  have h1 : c % 18446744073709551616 % m < m := Int.emod_lt_of_pos _ (by omega)
  refine ⟨((c % 18446744073709551616) % m).toNat, by omega, ?_⟩
  rw [IntKind.wrap_u64, Int.tmod_eq_emod_of_nonneg (Int.emod_nonneg _ (by omega)), IntWalk.wrap64_in _ (by omega)]
  omega
end Go.Proofs.Ytgkmgpjhpplkiaa
