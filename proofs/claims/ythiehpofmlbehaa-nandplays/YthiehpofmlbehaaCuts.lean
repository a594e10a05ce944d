/-
  Cuts of a row of bytes, its length and its elements, as equations of the operations: whatever the slice is (nil, empty, cut at its end).
-/
import Derived.Test.YthiehpofmlbehaaBlk
namespace Go.Proofs.Ythiehpofmlbehaa
open Go.RowKit
set_option linter.unusedVariables false
set_option maxRecDepth 100000

theorem Row.sub {w : World} {v : Value} {xs : List Int} (h : Row w v xs) (i j : Nat) (hij : i ≤ j) (hj : j ≤ xs.length) :
    ∃ ao cap, v = .slice ao xs.length cap ∧ xs.length ≤ cap ∧ Row w (sliced ao i j cap 1) ((xs.drop i).take (j - i)) := by
  have hb := (h.bys.drop i).take (j - i)
  have hl : ((xs.drop i).take (j - i)).length = j - i := by simp; omega
  by_cases h0 : xs = []
  · subst h0
    obtain ⟨ao, cap, rfl, h1, h2, h3, h4, h5⟩ := h
    simp at hj
    subst hj
    obtain rfl : i = 0 := by omega
    refine ⟨ao, cap, rfl, h1, ?_⟩
    unfold sliced
    refine ⟨_, cap, rfl, by simp, h2, ?_, fun a _ j u hu => by simp [bv] at hu, by simpa using hb⟩
    intro e
    by_cases hc : cap = 0
    · exact hc
    · rw [if_neg hc] at e
      simp at e
      exact h3 e
  · obtain ⟨b, off, cap, hv, hlc, hlt, hc⟩ := h.at h0
    have hm : cap ≤ maxLen := by
      obtain ⟨ao, c, hv', _, h2, _⟩ := h
      rw [hv] at hv'
      simp at hv'
      omega
    refine ⟨some ⟨b, off, none⟩, cap, hv, hlc, ?_⟩
    unfold sliced
    have hm' : cap - i ≤ maxLen := by omega
    by_cases he : cap = i
    · subst he
      have : j - xs.length = 0 := by omega
      rw [if_pos rfl]
      obtain rfl : cap = j := by omega
      have e : (List.drop cap xs).take (cap - cap) = [] := by simp
      rw [e, Nat.sub_self]
      exact Row.mk (xs := []) (by simp) (by omega) (fun i hi => by simp at hi) Bys.nil
    · rw [if_neg he]
      simp only [Option.map_some, Addr.add_lit, Nat.mul_one]
      have := Row.mk (w := w) (b := b) (off := off + i) (cap := cap - i) (xs := (xs.drop i).take (j - i)) (by rw [hl]; omega) hm' (fun k hk => by
        rw [hl] at hk
        rw [Nat.add_assoc, hc (i + k) (by omega)]
        simp [List.getD, show k < j - i by omega]) hb
      rwa [hl] at this

theorem sizeByte (w : World) : (sizeOf (Try.prog.elem 43)).run Try.prog w = .ok 1 w := by kernel_rfl
theorem sliceTy : Try.prog.underlying 43 = some (.slice (Try.prog.elem 43)) := Try.underlying43
/-- 'b[k:]'. -/
theorem Row.from {w : World} {v : Value} {xs : List Int} (h : Row w v xs) (k : Nat) (hk : k ≤ xs.length) :
    ∃ v', (∀ w', (Instr.sliceAt 43 v (some (.int .i64 k)) none none).run Try.prog w' = .ok v' w') ∧ Row w v' (xs.drop k) := by
  obtain ⟨ao, cap, rfl, hc, hr⟩ := h.sub k xs.length hk (Nat.le_refl _)
  refine ⟨_, fun w' => ?_, by rwa [List.take_of_length_le (by simp)] at hr⟩
  rw [run_sliceAt_slice _ _ _ _ _ _ sliceTy, run_slice_l _ _ _ _ _ sliceTy .i64 k (by omega) (by omega), sizeByte]
  simp [Result.andThen]
/-- 'b[i:j]', where there is more behind it. -/
theorem Row.mid {w : World} {v : Value} {xs : List Int} (h : Row w v xs) (i j : Nat) (hij : i ≤ j) (hj : j < xs.length) :
    ∃ b off cap, (∀ w', (Instr.sliceAt 43 v (some (.int .i64 i)) (some (.int .i64 j)) none).run Try.prog w' = .ok (.slice (some ⟨b, off, none⟩) (j - i) cap) w') ∧ Row w (.slice (some ⟨b, off, none⟩) (j - i) cap) ((xs.drop i).take (j - i)) := by
  obtain ⟨b, off, cap, rfl, hlc, _, _⟩ := h.at (by intro e; subst e; simp at hj)
  obtain ⟨ao, cap', hv, hc, hr⟩ := h.sub i j hij (by omega)
  simp at hv
  obtain ⟨rfl, rfl⟩ := hv
  unfold sliced at hr
  rw [if_neg (by omega)] at hr
  simp only [Option.map_some, Addr.add_lit, Nat.mul_one] at hr
  refine ⟨b, off + i, cap - i, fun w' => ?_, hr⟩
  rw [run_sliceAt_slice _ _ _ _ _ _ sliceTy, run_slice_lh _ _ _ _ _ sliceTy .i64 .i64 i j (by omega) (by omega) (by omega), sizeByte]
  simp [Result.andThen, sliced]
  rw [if_neg (by omega), Addr.add_lit]
theorem Row.lenRun {w : World} {v : Value} {xs : List Int} (h : Row w v xs) (w' : World) (ty : TypeId) : (Builtin.len_ #[43] ty #[v]).run Try.prog w' = .ok (.int .i64 xs.length) w' := by
  obtain ⟨ao, cap, rfl⟩ := h.of_len
  simp [Builtin.len_, run_underlying sliceTy, goInt]

/-- 'b[k]'. -/
theorem Row.idx {w : World} {v : Value} {xs : List Int} (h : Row w v xs) (k : Nat) (hk : k < xs.length) :
    ∃ p : Addr, (∀ w', (Instr.indexAt 43 v (.int .i64 k)).run Try.prog w' = .ok (.pointer (some p)) w') ∧ w.cell? p = some (.int .u8 (xs.getD k 0)) := by
  obtain ⟨b, off, cap, rfl, hlc, hlt, hc⟩ := h.at (by intro e; subst e; simp at hk)
  refine ⟨⟨b, off + k, none⟩, fun w' => ?_, hc k hk⟩
  rw [run_indexAt_slice _ _ _ _ _ _ _ sliceTy]
  simp [sizeByte, Result.andThen, hk, Addr.add_lit]

/-- 'b[i:j]' of any row. -/
theorem Row.btw {w : World} {v : Value} {xs : List Int} (h : Row w v xs) (i j : Nat) (hij : i ≤ j) (hj : j ≤ xs.length) :
    ∃ v', (∀ w', (Instr.sliceAt 43 v (some (.int .i64 i)) (some (.int .i64 j)) none).run Try.prog w' = .ok v' w') ∧ Row w v' ((xs.drop i).take (j - i)) := by
  obtain ⟨ao, cap, rfl, hc, hr⟩ := h.sub i j hij hj
  refine ⟨_, fun w' => ?_, hr⟩
  rw [run_sliceAt_slice _ _ _ _ _ _ sliceTy, run_slice_lh _ _ _ _ _ sliceTy .i64 .i64 i j (by omega) (by omega) (by omega), sizeByte]
  simp [Result.andThen]

/-- 'b[:k]'. -/
theorem Row.upto {w : World} {v : Value} {xs : List Int} (h : Row w v xs) (k : Nat) (hk : k ≤ xs.length) :
    ∃ v', (∀ w', (Instr.sliceAt 43 v none (some (.int .i64 k)) none).run Try.prog w' = .ok v' w') ∧ Row w v' (xs.take k) := by
  obtain ⟨ao, cap, rfl, hc, hr⟩ := h.sub 0 k (Nat.zero_le _) hk
  refine ⟨_, fun w' => ?_, by simpa using hr⟩
  rw [run_sliceAt_slice _ _ _ _ _ _ sliceTy, run_slice_h _ _ _ _ _ sliceTy .i64 k (by omega) (by omega), sizeByte]
  simp [Result.andThen]
/-- 'b[i:i+z]', not empty: where it lies. -/
theorem Row.page {w : World} {v : Value} {xs : List Int} (h : Row w v xs) (i z : Nat) (hz : 0 < z) (hj : i + z ≤ xs.length) :
    ∃ b off off0 cap n cap0, v = .slice (some ⟨b, off0, none⟩) n cap0 ∧ (∀ w', (Instr.sliceAt 43 v (some (.int .i64 i)) (some (.int .i64 ((i + z : Nat) : Int))) none).run Try.prog w' = .ok (.slice (some ⟨b, off, none⟩) z cap) w') ∧ Row w (.slice (some ⟨b, off, none⟩) z cap) ((xs.drop i).take z) := by
  obtain ⟨b, off, cap, rfl, hlc, _, _⟩ := h.at (by intro e; subst e; simp at hj; omega)
  obtain ⟨ao, cap', hv, hc, hr⟩ := h.sub i (i + z) (by omega) hj
  simp at hv
  obtain ⟨rfl, rfl⟩ := hv
  unfold sliced at hr
  rw [if_neg (by omega), Nat.add_sub_cancel_left] at hr
  simp only [Option.map_some, Addr.add_lit, Nat.mul_one] at hr
  refine ⟨b, off + i, off, cap - i, _, cap, rfl, fun w' => ?_, hr⟩
  rw [run_sliceAt_slice _ _ _ _ _ _ sliceTy, run_slice_lh _ _ _ _ _ sliceTy .i64 .i64 i _ (by omega) (by omega) (by omega), sizeByte]
  simp [Result.andThen, sliced]
  rw [if_neg (by omega), Addr.add_lit]
  refine ⟨rfl, by omega⟩
end Go.Proofs.Ythiehpofmlbehaa
