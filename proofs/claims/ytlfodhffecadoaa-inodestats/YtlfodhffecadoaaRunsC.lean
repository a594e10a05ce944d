/-
  The contracts of package runs: has, Get, Count.
-/
import Derived.Test.YtlfodhffecadoaaRunsB
namespace Go.Proofs.Ytlfodhffecadoaa
open Go.RowKit
set_option linter.unusedVariables false
set_option maxRecDepth 100000


/-- What Get answers. -/
def SaysG (o : Option Int) (w : World) (e : Ending) (w' : World) : Prop := e = .returned (.tuple #[.int .i64 (o.getD 0), .bool o.isSome]) ∧ Below w.heap.size w w'

set_option maxHeartbeats 4000000 in
theorem Count_any (w : World) (v : Value) (l : List Rn) (h : RRow w v l) : Calls Try.prog 24 #[v] w fun e w' => e = .returned (.int .i64 (if rightS l then cntS l else 0)) ∧ Below w.heap.size w w' := by
  have hri := RightR_any w v l h
  have HR := hide h
  cases hrt : rightS l with
  | false =>
    rw [hrt] at hri
    clear h hrt
    go_enter Try.func24, Try.ntmps24
    go_wp2_with fail
    refine hri.mono ?_
    rintro e w1 ⟨rfl, hb1⟩
    go_wp2
    go_ret
    exact ⟨rfl, hb1⟩
  | true =>
    rw [hrt] at hri
    have hlr := h.lenRun
    have HT := hide hrt
    have hlb := len_bound hrt
    obtain ⟨len, hL⟩ : ∃ n, l.length = n := ⟨_, rfl⟩
    have HL := hide hL
    rw [hL] at hlb
    simp only [hL] at hlr
    clear hL h hrt
    go_enter Try.func24, Try.ntmps24
    go_wp2_with fail
    refine hri.mono ?_
    rintro e w1 ⟨rfl, hb1⟩
    go_wp2
    go_loopw [3, 11] (fun s i wr => ∃ k : Nat, k ≤ len ∧ i = .int .i64 k ∧ s = .int .i64 (cntS (l.take k)) ∧ Below w.heap.size w wr) (fun _ i _ => len - (intOf i).toNat)
    case atStart => exact ⟨0, Nat.zero_le _, rfl, by simp [cntS], hb1⟩
    case round =>
      obtain ⟨k, hk, rfl, rfl, hbk⟩ := hrel
      have hcb := cnt_bound (right_take HT.out k)
      by_cases hlt : k < len
      · have hlt' : (k : Int) < len := by omega
        have hkl : k < l.length := by rw [HL.out]; exact hlt
        obtain ⟨b, o, hbs, hix, c0, c1, c2⟩ := (HR.out.below hbk).idx k hkl
        have hmore := cnt_more hkl
        have hw := within_iff.1 (within_at (l := l) (i := k) (k := k + 1) (right_take HT.out _) (by omega) (by omega))
        generalize hr : l.getD k default = r at *
        obtain ⟨f, a, n⟩ := r
        simp only at c0 c1 c2 hmore hw
        have HMO := hide hmore
        obtain ⟨s, hs⟩ : ∃ s, cntS (l.take k) = s := ⟨_, rfl⟩
        rw [hs] at hcb HMO ⊢
        have hB1 : Below w.heap.size w (wr.alloc (.cells #[.int .i64 f, .int .i64 a, .int .i64 n] 40)) := hbk.alloc hbk.size _
        clear hmore hr hs
        go_wp2
        exact ⟨⟨k + 1, by omega, by go_num, by rw [HMO.out], hB1⟩, by simp [intOf]; omega⟩
      · obtain rfl : k = len := by omega
        rw [List.take_of_length_le (by rw [HL.out]; exact Nat.le_refl _)]
        go_wp2
        go_ret
        exact ⟨rfl, hbk⟩
end Go.Proofs.Ytlfodhffecadoaa
