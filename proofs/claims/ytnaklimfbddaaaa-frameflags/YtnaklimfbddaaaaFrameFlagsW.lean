/-
  The walk of garretlaw07.FrameFlags.
-/
import Derived.Test.YtnaklimfbddaaaaAwake07
import Derived.Test.YtnaklimfbddaaaaMakeB
namespace Go.Proofs.Ytnaklimfbddaaaa
open Go.RowKit
set_option linter.unusedVariables false
set_option maxRecDepth 100000

theorem flag_at (b : List Int) (f : Int) (rest : List Int) : (bodyB b ++ (f :: rest)).getD (b.length + 6) 0 = f := by
  have := bodyB_length b
  simp only [List.getD]
  rw [List.getElem?_append_right (by omega)]
  simp [this]
theorem saidN_body (b rest : List Int) (hl : b.length ≤ 65000) : saidN (bodyB b ++ rest) = b.length := by
  have e : bodyB b ++ rest = lenB b ++ (low (fsum b) 4 ++ b ++ rest) := by simp [bodyB]
  rw [e]
  exact saidN_rec b _ hl
theorem firstS_flag (b : List Int) (f : Int) (rest : List Int) (hl : b.length ≤ 65000) (hf : f ≠ 0) : firstS (bodyB b ++ (f :: rest)) = none := by
  unfold firstS
  split
  · rfl
  · rw [saidN_body b _ hl, if_pos (.inr (.inr (by rw [flag_at]; exact hf)))]
theorem clean_body (b rest : List Int) (hl : b.length ≤ 65000) : clean (bodyB b ++ rest) = false := by
  have e : bodyB b ++ rest = lenB b ++ (low (fsum b) 4 ++ b ++ rest) := by simp [bodyB]
  rw [e, lenB_two]
  unfold clean
  rw [List.all_eq_false]
  refine ⟨(b.length : Int) / 256 % 256, by simp, ?_⟩
  simp
  omega
/-- What is found. -/
theorem flag_found (xs : List Int) (f : Int) (hl : xs.length ≤ 300) : ∃ (cs : List (List Int)) (m : Nat), Found (bodyB xs ++ [f]) cs m ∧ ((f = 0 ∧ cs.length = 1 ∧ m = xs.length + 7 ∧ clean ((bodyB xs ++ [f]).drop m) = true) ∨ (f ≠ 0 ∧ cs.length = 0 ∧ m = 0 ∧ clean ((bodyB xs ++ [f]).drop m) = false)) := by
  by_cases h : f = 0
  · subst h
    refine ⟨[xs], xs.length + 7, found_one xs (by omega), .inl ⟨rfl, rfl, rfl, ?_⟩⟩
    rw [List.drop_of_length_le (by rw [List.length_append, bodyB_length]; exact Nat.le_refl _)]
    rfl
  · exact ⟨[], 0, .stop (firstS_flag xs f [] (by omega) h), .inr ⟨h, rfl, rfl, clean_body xs _ (by omega)⟩⟩

set_option maxHeartbeats 4000000 in
theorem FrameFlags_walk (bv0 : Value) (xs : List Int) (f n : Int) (w : World) (w0 : IRow .u8 w bv0 xs) (w1 : (Lit.int .u8 f).wf = true) (w2 : (Lit.int .i64 n).wf = true) :
    Calls Try.prog 5 #[bv0, .int .u8 f, .int .i64 n] w fun e w' => e = .returned (.bool true) ∧ Below w.heap.size w w' := by
  have h := w0.bytes
  have hlen := h.lenRun
  have hf := wf_u8 w1
  by_cases hbig : 300 < xs.length
  · have hbig' : (300 : Int) < xs.length := by omega
    clear h w0
    go_enter Try.func5, Try.ntmps5
    go_wp2_with fail
    refine (awake_any _).mono ?_
    rintro e w5 ⟨rfl, hb5⟩
    go_wp2
    go_ret
    exact ⟨rfl, hb5⟩
  · have hbig' : (xs.length : Int) ≤ 300 := by omega
    have HN := hide (show xs.length ≤ 300 by omega)
    have HB := hide h
    obtain ⟨k, hk, ek⟩ := cut_n n 20 (by omega) (by omega)
    rw [show ((20 : Nat) : Int) = 20 from rfl] at ek
    have hBS : bodyS xs = (bodyB xs, 0) := by unfold bodyS; rw [if_neg (by omega)]
    have HBS := hide hBS
    have HBL := hide (bodyB_length xs)
    obtain ⟨cs, m, hfd, hfc⟩ := flag_found xs f (by omega)
    have HFD := hide hfd
    have HFC := hide hfc
    obtain ⟨Z, hZ⟩ : ∃ Z : List Int, Z = List.replicate (64990 + k) 0 := ⟨_, rfl⟩
    have hmk : ∀ w : World, (Instr.makeSlice 22 (.int .i64 (64990 + (k : Int))) (.int .i64 (64990 + (k : Int)))).run Try.prog w = .ok (.slice (some ⟨w.heap.size, 0, none⟩) (64990 + k) (64990 + k)) (w.alloc (.cells (bv Z).toArray 5)) := fun w => by
      have := run_make_bytes w (64990 + k) (by omega)
      rwa [show ((64990 + k : Nat) : Int) = 64990 + (k : Int) from by omega, ← hZ] at this
    have hZl : Z.length = 64990 + k := by rw [hZ]; simp
    have HZL := hide hZl
    have HZB := hide (show Bys Z from hZ ▸ rep_bys _ 0 (by omega))
    have HK := hide hk
    clear h w0 hbig hBS hfd hfc hZ hZl
    go_enter Try.func5, Try.ntmps5
    go_wp2_with fail
    refine (Body_any w bv0 xs HB.out).mono ?_
    rintro e w1 ⟨x, rfl, ho1, hb1⟩
    rw [HBS.out] at ho1 ⊢
    have HO1 := hide ho1
    clear ho1
    go_wp2_with (at_builtin; refine wpList_append_row rfl _ _ rfl w1.heap.size _ _ [] (bodyB xs) rfl (Own.nil _ _) rfl HO1.out.row (by rw [HBL.out]; have := HN.out; simp; omega) (Nat.le_refl _) ?_)
    intro v2 w2 ho2 hg2
    have hb2 : Below w1.heap.size w1 w2 := grown_below hg2
    try rw [List.nil_append] at ho2
    have HO2 := hide ho2
    have hb2a : Below w1.heap.size w1 (w2.alloc (.cells #[.int .u8 f] 5)) := hb2.alloc hb2.size _
    clear ho2 hg2
    go_wp2_with (at_builtin; refine wpList_append_row rfl _ _ rfl w1.heap.size _ _ (bodyB xs) [f] rfl (HO2.out.alloc _) rfl (row_new1 _ _ hf) (by rw [HBL.out]; have := HN.out; simp; omega) hb2a.size ?_)
    intro v3 w3 ho3 hg3
    have hb3 : Below w1.heap.size w1 w3 := (HO2.out.alloc _).grown_below hb2a hg3 (Nat.le_refl _) hb2a.size
    have HO3 := hide ho3
    clear ho3 hg3 hb2 hb2a HO2
    go_wp2_with fail
    refine (Scan_known HO3.out.row (by rw [List.length_append, HBL.out]; have := HN.out; simp; omega) HFD.out).mono ?_
    rintro e w4 ⟨l, us, rfl, hv4, hw4, hb4⟩
    obtain ⟨la, lc, hl⟩ := hv4.vals.of_len
    have hul : us.length = cs.length := hw4.1
    rw [hul] at hl
    subst hl
    obtain ⟨xa, xc, hx⟩ := HO1.out.row.of_len
    rw [HBL.out] at hx
    subst hx
    have hb14 : Below w1.heap.size w1 w4 := hb3.trans (hb4.mono hb3.size)
    clear hv4 hw4 hul HO3 hb3 hb4 HO1
    go_wp2_with fail
    have hB4 : Below w.heap.size w w4 := hb1.trans (hb14.mono hb1.size)
    have hrz : Row (w4.alloc (.cells (bv Z).toArray 5)) (.slice (some ⟨w4.heap.size, 0, none⟩) (64990 + k) (64990 + k)) Z := (Blk.new w4 _ _).bytes HZL.out (by unfold maxLen; have := HK.out; omega) HZB.out
    have hB5 : Below w.heap.size w (w4.alloc (.cells (bv Z).toArray 5)) := hB4.alloc hB4.size _
    refine (Body_any _ _ Z hrz).mono ?_
    rintro e w5 ⟨z, rfl, _, hb5⟩
    have hB6 : Below w.heap.size w w5 := hB5.trans (hb5.mono hB5.size)
    clear hrz hB5 hb5 hmk
    have hzc : (k ≤ 10 ∧ (bodyS Z).2 = 0) ∨ (10 < k ∧ (bodyS Z).2 = 21) := by
      have := HZL.out
      unfold bodyS
      by_cases h : k ≤ 10
      · exact .inl ⟨h, by rw [if_neg (by omega)]⟩
      · exact .inr ⟨by omega, by rw [if_pos (by omega)]⟩
    generalize (bodyS Z).2 = er at *
    go_wp2_with fail
    refine (awake_any w5).mono ?_
    rintro e w6 ⟨rfl, hb6⟩
    have hB7 : Below w.heap.size w w6 := hB6.trans (hb6.mono hB6.size)
    have hfc := HFC.out
    generalize clean ((bodyB xs ++ [f]).drop m) = cl at *
    generalize cs.length = cn at *
    rcases hfc with ⟨rfl, rfl, rfl, rfl⟩ | ⟨hf0, rfl, rfl, rfl⟩
    · rcases hzc with ⟨hk10, rfl⟩ | ⟨hk10, rfl⟩
      · have hk10' : (k : Int) ≤ 10 := by omega
        go_wp2
        go_ret
        first
          | exact ⟨rfl, hB7⟩
          | exact ⟨ret_one (congrArg Value.bool (by simp; omega)), hB7⟩
      · have hk10' : (10 : Int) < k := by omega
        go_wp2
        go_ret
        first
          | exact ⟨rfl, hB7⟩
          | exact ⟨ret_one (congrArg Value.bool (by simp; omega)), hB7⟩
    · have hf1 : (f == 0) = false := beq_eq_false_iff_ne.2 hf0
      rcases hzc with ⟨hk10, rfl⟩ | ⟨hk10, rfl⟩
      · have hk10' : (k : Int) ≤ 10 := by omega
        go_wp2
        go_ret
        first
          | exact ⟨rfl, hB7⟩
          | exact ⟨ret_one (congrArg Value.bool (by simp; omega)), hB7⟩
      · have hk10' : (10 : Int) < k := by omega
        go_wp2
        go_ret
        first
          | exact ⟨rfl, hB7⟩
          | exact ⟨ret_one (congrArg Value.bool (by simp; omega)), hB7⟩
end Go.Proofs.Ytnaklimfbddaaaa
