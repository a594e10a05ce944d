/-
  The contracts of the helpers: Bytes holds two rows of bytes against each other.
-/
import Derived.Test.YtgkmgpjhpplkiaaMem2
import Derived.Lib.Bytes
namespace Go.Proofs.Ytgkmgpjhpplkiaa
open Go.RowKit
set_option linter.unusedVariables false

/-- A row of bytes as a text. -/
theorem Row.text {w : World} {v : Value} {xs : List Int} (h : Row w v xs) : (convert 23 9 v).run Try.prog w = .ok (.string (strOfNums xs)) w := by
  by_cases h0 : xs = []
  · subst h0
    obtain ⟨ao, cap, rfl, _⟩ := h
    cases ao with
    | none => exact run_convert_bytes_nil w 23 5 Try.underlying23 Try.underlying5 _ _ 9 Try.underlying9
    | some a =>
      rw [run_convert_bytes_string w 23 9 5 _ _ _ Try.underlying23 Try.underlying5 Try.underlying9]
      rw [run_bytesToString w a _ cap [] (by simpa using run_loadCells_list (P := Try.prog) w a [] (fun j v hj => by simp at hj))]
      rfl
  · obtain ⟨b, off, cap, rfl, hl, hlt, hc⟩ := h.at h0
    exact run_convert_bytes_arg w 23 5 Try.underlying23 Try.underlying5 b off _ cap xs rfl hc 9 Try.underlying9

theorem strOfNums_inj {xs ys : List Int} (hx : Bys xs) (hy : Bys ys) (h : strOfNums xs = strOfNums ys) : xs = ys := by
  have h1 : (strOfNums xs).data.toList = (strOfNums ys).data.toList := by rw [h]
  rw [strOfNums_data, strOfNums_data] at h1
  have key : ∀ l : List Int, Bys l → (l.map fun n => UInt8.ofNat n.toNat).map (fun b => (b.toNat : Int)) = l := by
    intro l hl
    rw [List.map_map]
    conv => rhs; rw [← List.map_id l]
    apply List.map_congr_left
    intro x hx
    have := hl x hx
    simp only [Function.comp, id]
    rw [UInt8.toNat_ofNat_of_lt' (by show x.toNat < 256; omega)]
    omega
  rw [← key xs hx, ← key ys hy, h1]

set_option maxHeartbeats 400000 in
set_option maxRecDepth 100000 in
theorem Bytes_any (w : World) (a b : Value) (xs ys : List Int) (ha : Row w a xs) (hb : Row w b ys) :
    Calls Try.prog 13 #[a, b] w fun e w' => e = .returned (.bool (decide (xs = ys))) ∧ w' = w := by
  have h1 := ha.text
  have h2 := hb.text
  go_enter Try.func13, Try.ntmps13
  go_wp2
  go_ret
  have hx := ha.bys
  have hy := hb.bys
  refine ⟨ret_one (congrArg Value.bool ?_), rfl⟩
  show ((strOfNums xs).toList == (strOfNums ys).toList) = decide (xs = ys)
  by_cases e : xs = ys
  · subst e; simp
  · have : ¬ (strOfNums xs).toList = (strOfNums ys).toList := by
      intro h
      rw [Lib.strOfNums_toList, Lib.strOfNums_toList] at h
      exact e (strOfNums_inj hx hy (by unfold strOfNums; congr 1; exact congrArg List.toArray h))
    rw [decide_eq_false e]
    simpa using this
end Go.Proofs.Ytgkmgpjhpplkiaa
