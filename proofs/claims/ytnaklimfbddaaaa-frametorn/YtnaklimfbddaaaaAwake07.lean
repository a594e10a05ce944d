/-
  garretlaw07's awake and record.
-/
import Derived.Test.YtnaklimfbddaaaaFrameC
import Derived.Test.YtnaklimfbddaaaaHelp
namespace Go.Proofs.Ytnaklimfbddaaaa
open Go.RowKit
set_option linter.unusedVariables false
set_option maxRecDepth 100000

theorem Scan_known {w : World} {v : Value} {xs : List Int} (h : Row w v xs) (hn : xs.length ≤ 1000000000) {cs : List (List Int)} {m : Nat} (hf : Found xs cs m) :
    Calls Try.prog 11 #[v] w fun e w' => ∃ u us, e = .returned (.tuple #[u, .int .i64 (m : Int), .bool (clean (xs.drop m))]) ∧ VOwn w.heap.size w' u us ∧ Owns w.heap.size w' us cs ∧ Below w.heap.size w w' := by
  refine (Scan_any w v xs h hn).mono ?_
  rintro e w' ⟨u, us, bss, n, rfl, h1, h2, h3, h4⟩
  obtain ⟨rfl, rfl⟩ := h3.found.uniq hf
  exact ⟨u, us, rfl, h1, h2, h4⟩
theorem found_one (b : List Int) (hl : b.length ≤ 65000) : Found (recB b) [b] (b.length + 7) := by
  have := found_recs (bs := [b]) (rest := []) (fun c hc => by simp at hc; subst hc; exact hl) (.stop firstS_nil)
  simpa [recs, recB_length] using this
theorem record_any (w : World) (b : Value) (xs : List Int) (h : Row w b xs) (hn : xs.length ≤ 65000) :
    Calls Try.prog 17 #[b] w (Made w (recB xs)) := by
  have hw := Body_any w b xs h
  rw [show bodyS xs = (bodyB xs, 0) from by unfold bodyS; rw [if_neg (by omega)]] at hw
  have HL := hide (bodyB_length xs)
  have HN := hide hn
  clear h hn
  go_enter Try.func17, Try.ntmps17
  go_wp2_with fail
  refine hw.mono ?_
  rintro e w1 ⟨u, rfl, ho, hb⟩
  have hb1 : Below w.heap.size w (w1.alloc (.cells #[.int .u8 0] 5)) := hb.alloc hb.size _
  clear hw
  go_wp2_with (at_builtin; refine wpList_append_row rfl _ _ rfl w.heap.size _ _ (bodyB xs) [0] rfl (ho.alloc _) rfl (row_new1 _ _ (by omega)) (by rw [HL.out]; have := HN.out; simp; omega) hb1.size ?_)
  intro v2 w2 ho2 hg2
  have hb2 : Below w.heap.size w w2 := (ho.alloc _).grown_below hb1 hg2 (Nat.le_refl _) hb1.size
  clear ho hg2
  go_wp2
  go_ret
  exact ⟨_, rfl, ho2, hb2⟩

set_option maxHeartbeats 1000000 in
theorem awake_any (w : World) : Calls Try.prog 7 #[] w fun e w' => e = .returned (.bool true) ∧ Below w.heap.size w w' := by
  have hb0 : Below w.heap.size w (w.alloc (.cells #[.int .u8 7] 5)) := (Below.refl _ _).alloc (Nat.le_refl _) _
  go_enter Try.func7, Try.ntmps7
  go_wp2_with fail
  refine (Body_any _ _ [7] (row_new1 w 7 (by omega))).mono ?_
  rintro e w1 ⟨u, rfl, ho1, hb1⟩
  rw [show bodyS [7] = (bodyB [7], 0) from rfl] at ho1 ⊢
  have hB1 : Below w.heap.size w w1 := hb0.trans (hb1.mono hb0.size)
  have ho1' := ho1.mono hb0.size
  have hB2 : Below w.heap.size w (w1.alloc (.cells #[.int .u8 0] 5)) := hB1.alloc hB1.size _
  clear ho1 hb1 hB1
  go_wp2_with (at_builtin; refine wpList_append_row rfl _ _ rfl w.heap.size _ _ (bodyB [7]) [0] rfl (ho1'.alloc _) rfl (row_new1 _ _ (by omega)) (by rw [bodyB_length]; simp) hB2.size ?_)
  intro v2 w2 ho2 hg2
  have hB3 : Below w.heap.size w w2 := (ho1'.alloc _).grown_below hB2 hg2 (Nat.le_refl _) hB2.size
  have HO2 : Hid (Own w.heap.size w2 v2 (recB [7])) := ho2
  clear ho1' hg2 hB2 ho2
  go_wp2_with fail
  refine (Scan_known HO2.out.row (by rw [recB_length]; simp) (found_one [7] (by simp))).mono ?_
  rintro e w3 ⟨l, us, rfl, hv, ho, hb3⟩
  have hB4 : Below w.heap.size w w3 := hB3.trans (hb3.mono hB3.size)
  have hc : clean ((recB [7]).drop ([(7 : Int)].length + 7)) = true := by rw [List.drop_of_length_le (by rw [recB_length]; exact Nat.le_refl _)]; rfl
  rw [hc]
  have hr : VRow w3 l [[7]] := ⟨us, hv.vals, ho.rows⟩
  obtain ⟨g, off, cap, rfl, _, hg, hat⟩ := hr.at (by simp)
  obtain ⟨u0, hu0, hru⟩ := hat 0 (by simp)
  simp only [List.length_cons, List.length_nil, Nat.zero_add, Nat.add_zero, Nat.reduceAdd] at *
  obtain ⟨ua, un, uc, rfl⟩ : ∃ a n c, u0 = .slice a n c := by obtain ⟨_, _, e⟩ := hru.of_len; exact ⟨_, _, _, e⟩
  have HRU := hide (show Row w3 (.slice ua un uc) [7] from hru)
  clear hc hr hat hv ho hru HO2 hb3 hB3
  go_wp2_with fail
  refine (Bytes_any _ _ _ [7] [7] (HRU.out.below ((Below.refl _ _).alloc (Nat.le_refl _) _)) (row_new1 _ 7 (by omega))).mono ?_
  rintro e w5 ⟨rfl, rfl⟩
  rw [show decide ([(7 : Int)] = [7]) = true from rfl]
  go_wp2_with fail
  refine (Size_any _ 1 (by omega)).mono ?_
  rintro e w6 ⟨rfl, rfl⟩
  go_wp2
  go_ret
  exact ⟨rfl, hB4.alloc hB4.size _⟩
end Go.Proofs.Ytnaklimfbddaaaa
