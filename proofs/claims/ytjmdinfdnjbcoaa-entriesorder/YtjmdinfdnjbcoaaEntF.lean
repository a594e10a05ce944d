/-
  Entries: Find; the document's Find.
-/
import Derived.Test.YtjmdinfdnjbcoaaEntE
namespace Go.Proofs.Ytjmdinfdnjbcoaa
open Go.RowKit
set_option linter.unusedVariables false
set_option maxRecDepth 100000

theorem findS_some {l : List En} {s : List UInt8} {i : Nat} (h : atS l s = some i) : findS l s = ((l.getD i default).n, true) := by unfold findS; rw [h]
theorem findS_none {l : List En} {s : List UInt8} (h : atS l s = none) : findS l s = (0, false) := by unfold findS; rw [h]

set_option maxHeartbeats 2000000 in
theorem Find_any (w : World) (v : Value) (l : List En) (h : ERow w v l) (hz : l.length ≤ 1000000) (s : ByteArray) (hs : s.size ≤ maxLen) :
    Calls Try.prog 13 #[v, .string s] w fun e w' => e = .returned (.tuple #[.int .i64 (findS l (bl s)).1, .bool (findS l (bl s)).2]) ∧ Below w.heap.size w w' := by
  have hpl := places_any w v l h hz
  have HR := hide h
  have HS := hide hs
  unfold maxLen at hs
  clear h
  cases hat : atS l (bl s) with
  | none =>
    rw [findS_none hat]
    go_enter Try.func13, Try.ntmps13
    go_wp2_with fail
    refine hpl.mono ?_
    rintro e w1 ⟨rfl, ⟨n, hM⟩, hb1⟩
    have hlk := hM.look s HS.out
    rw [hat] at hlk
    simp only [Option.getD_none, Option.isSome_none] at hlk
    clear hM
    go_wp2
    go_ret2
    exact ⟨rfl, hb1⟩
  | some i =>
    rw [findS_some hat]
    obtain ⟨bb, o, hbs, hix, c0, c1⟩ := HR.out.idx i (atS_lt hat)
    generalize (l.getD i default).n = N at *
    have HA := hide hat
    clear hat
    go_enter Try.func13, Try.ntmps13
    go_wp2_with fail
    refine hpl.mono ?_
    rintro e w1 ⟨rfl, ⟨n, hM⟩, hb1⟩
    have hlk := hM.look s HS.out
    rw [HA.out] at hlk
    simp only [Option.getD_some, Option.isSome_some] at hlk
    have c1' := (hb1.cell (p := ⟨bb, o + 1, none⟩) hbs).trans c1
    clear hM c0 c1
    go_wp2
    go_ret2
    exact ⟨rfl, hb1⟩

set_option maxHeartbeats 2000000 in
theorem RFind_any (w : World) (v : Value) (l : List En) (h : ERow w v l) (s : ByteArray) :
    Calls Try.prog 14 #[v, .string s] w fun e w' => e = .returned (.tuple #[.int .i64 (findS l (bl s)).1, .bool (findS l (bl s)).2]) ∧ w' = w := by
  have hlr := h.lenRun
  have hlm := h.len
  unfold maxLen at hlm
  have HR := hide h
  obtain ⟨len, hL⟩ : ∃ n, l.length = n := ⟨_, rfl⟩
  have HL := hide hL
  simp only [hL] at hlr
  rw [hL] at hlm
  have HG : Hid (∀ r : Int × Bool, ((∃ k : Nat, k < len ∧ r = ((l.getD k default).n, true) ∧ bl (l.getD k default).s = bl s ∧ ∀ j, j < k → bl (l.getD j default).s ≠ bl s) ∨ (r = (0, false) ∧ ∀ j, j < len → bl (l.getD j default).s ≠ bl s)) → r = findS l (bl s)) := by
    rintro r (⟨k, hk, rfl, h1, h2⟩ | ⟨rfl, h2⟩)
    · exact (findS_some (atS_some.2 ⟨by omega, h1, h2⟩)).symm
    · refine (findS_none (atS_none.2 fun x hx => ?_)).symm
      obtain ⟨j, hj, rfl⟩ := List.mem_iff_getElem.1 hx
      have := h2 j (by omega)
      rwa [show l.getD j default = l[j] from by simp [List.getD, List.getElem?_eq_getElem hj]] at this
  clear hL h
  generalize findS l (bl s) = R at *
  obtain ⟨R1, R2⟩ := R
  go_enter Try.func14, Try.ntmps14
  go_wp2
  go_loop [6] (fun i => ∃ k : Nat, k ≤ len ∧ i = .int .i64 k ∧ Hid (∀ j, j < k → bl (l.getD j default).s ≠ bl s)) (fun i => len - (intOf i).toNat)
  case atStart => exact ⟨0, Nat.zero_le _, rfl, hide (fun j hj => absurd hj (Nat.not_lt_zero _))⟩
  case round =>
    obtain ⟨k, hk, rfl, HN⟩ := hrel
    by_cases hlt : k < len
    · have hlt' : (k : Int) < len := by omega
      have hkl : k < l.length := by rw [HL.out]; exact hlt
      obtain ⟨bb, o, hbs, hix, c0, c1⟩ := HR.out.idx k hkl
      have hy := fun h1 => HG.out _ (.inl ⟨k, hlt, rfl, h1, HN.out⟩)
      have hm : ¬ bl (l.getD k default).s = bl s → ∀ j, j < k + 1 → bl (l.getD j default).s ≠ bl s := fun h1 j hj => by
        by_cases e : j = k
        · subst e; exact h1
        · exact HN.out j (by omega)
      generalize l.getD k default = x at *
      obtain ⟨xs, xn⟩ := x
      simp only at c0 c1 hm hy
      have hq := same_bl xs s
      by_cases he : bl xs = bl s
      · have H1 := hide (congrArg Prod.fst (hy he))
        have H2 := hide (congrArg Prod.snd (hy he))
        rw [decide_eq_true he] at hq
        clear hy hm he hkl
        go_wp2
        go_ret2
        exact ⟨ret_two (congrArg (Value.int .i64) H1.out) (congrArg Value.bool H2.out), rfl⟩
      · have HY := hide (hm he)
        rw [decide_eq_false he] at hq
        clear hy hm he hkl
        go_wp2
        exact ⟨⟨k + 1, by omega, by go_num, HY⟩, by simp [intOf]; omega⟩
    · obtain rfl : k = len := by omega
      have hy := HG.out _ (.inr ⟨rfl, HN.out⟩)
      have H1 := hide (congrArg Prod.fst hy)
      have H2 := hide (congrArg Prod.snd hy)
      clear hy
      go_wp2
      go_ret2
      exact ⟨ret_two (congrArg (Value.int .i64) H1.out) (congrArg Value.bool H2.out), rfl⟩
end Go.Proofs.Ytjmdinfdnjbcoaa
