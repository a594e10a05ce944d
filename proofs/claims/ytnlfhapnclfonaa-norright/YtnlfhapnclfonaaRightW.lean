/-
  The walk of garretlaw04.NorRight.
-/
import Derived.Test.YtnlfhapnclfonaaKeptN
import Derived.Laws.IdiomCopy
namespace Go.Proofs.Ytnlfhapnclfonaa
open Go.RowKit
set_option linter.unusedVariables false

theorem NewNor_nil (w : World) (a b c d e : Int) (ha : (Lit.int .i64 a).wf = true) :
    Calls Try.prog 10 #[.agg (gcells a b c d e), .pointer none] w fun x w' => ∃ p, x = .returned (.tuple #[.pointer p, .int .i64 (if rightS a b c d e then 0 else 1)]) ∧ Below w.heap.size w w' := by
  by_cases hr : rightS a b c d e = true
  · have hu := rightS_of hr
    obtain ⟨A, rfl⟩ := Int.eq_ofNat_of_zero_le (show 0 ≤ a by omega)
    obtain ⟨B, rfl⟩ := Int.eq_ofNat_of_zero_le (show 0 ≤ b by omega)
    refine (NewNor_right w A B c d e none hr).mono ?_
    rintro x w' ⟨k, bb, eb, rfl, hm⟩
    rw [if_pos hr]
    exact ⟨_, rfl, hm.below⟩
  · have hf : rightS a b c d e = false := by simpa using hr
    refine (NewNor_wrong w a b c d e none ha hf).mono ?_
    rintro x w' ⟨rfl, hb⟩
    rw [if_neg hr]
    exact ⟨_, rfl, hb⟩

/-- copy of a row into a whole block. -/
theorem run_copy_any (w : World) (g : Nat) (cur : List Int) (v : Value) (xs : List Int) (h : Blk w g (bv cur).toArray 5) (hv : Row w v xs) (n : Nat) (hn : cur.length = n) :
    ∃ w', (Builtin.copy_ #[39, 39] 3 #[.slice (some ⟨g, 0, none⟩) n n, v]).run Try.prog w = .ok (goInt ((min xs.length n : Nat) : Int)) w' ∧ Blk w' g (bv (xs.take n ++ cur.drop xs.length)).toArray 5 ∧ w.grownBy w' (some g) := by
  subst hn
  by_cases h0 : min xs.length cur.length = 0
  · obtain ⟨ao, cap, rfl⟩ := hv.of_len
    refine ⟨w, ?_, ?_, World.grownBy.refl _ _⟩
    · rw [run_copy_none (P := Try.prog) w 39 39 3 5 _ _ _ _ _ _ Try.underlying39 (by kernel_rfl) (by exact h0), h0]
      rfl
    · rcases Nat.eq_zero_or_pos xs.length with hx | hx
      · have : xs = [] := List.eq_nil_of_length_eq_zero hx
        subst this
        simpa using h
      · have : cur = [] := List.eq_nil_of_length_eq_zero (by omega)
        subst this
        simpa using h
  · have hx0 : xs ≠ [] := by intro e; subst e; simp at h0
    obtain ⟨vb, off, cap, rfl, hlc, hltb, hc⟩ := hv.at hx0
    have hsrc : ∀ j u, (bv (xs.take cur.length))[j]? = some u → w.cell? ((⟨vb, off, none⟩ : Addr).add j) = some u := by
      intro j u hu
      obtain ⟨hj, rfl⟩ := bv_get hu
      rw [Addr.add_lit]
      simp at hj
      rw [hc j (by omega), getD_take _ _ _ (by omega)]
    have hbyt : w.heap[g]? = some (.cells (bv cur).toArray 5 (0, 0)) := h
    have hcp := run_copy_row (P := Try.prog) w 39 39 3 5 g 0 cur.length cur.length ⟨vb, off, none⟩ xs.length cap (bv cur).toArray 5 (bv (xs.take cur.length)) Try.underlying39 (by kernel_rfl) hbyt (by rw [bv_length, List.length_take, Nat.min_comm]) hsrc (by simp [bv_length]; omega) (bv_one _)
    have e1 : ((bv cur).toArray.toList.take 0 ++ bv (xs.take cur.length) ++ (bv cur).toArray.toList.drop (0 + (bv (xs.take cur.length)).length)).toArray = (bv (xs.take cur.length ++ cur.drop xs.length)).toArray := by
      rw [bv_append]
      congr 1
      simp only [List.take_zero, List.nil_append, Nat.zero_add, bv_length, List.length_take]
      congr 1
      simp only [bv, ← List.map_drop]
      congr 1
      rcases Nat.le_total cur.length xs.length with hl | hl
      · rw [Nat.min_eq_left hl, List.drop_of_length_le (Nat.le_refl _), List.drop_of_length_le hl]
      · rw [Nat.min_eq_right hl]
    rw [e1] at hcp
    refine ⟨_, hcp.trans (by rw [bv_length, List.length_take, Nat.min_comm]), ?_, ?_⟩
    · simp [Blk, World.setRow, Array.getElem?_modify, hbyt]
    · refine ⟨rfl, rfl, rfl, by simp [World.setRow], fun k hk hne => ?_⟩
      simp [World.setRow, Array.getElem?_modify]
      intro e; subst e; simp at hne

/-! ### a nil chip -/
theorem nil_read (w : World) (p k : Int) : Calls Try.prog 25 #[.pointer none, .int .i64 p, .int .i64 k] w fun e w' => e = .returned (.tuple #[.slice none 0 0, .int .i64 2]) ∧ w' = w := by
  go_enter Try.func25, Try.ntmps25
  go_wp2
  go_ret2
  exact ⟨rfl, rfl⟩
theorem nil_program (w : World) (p : Int) (v : Value) : Calls Try.prog 22 #[.pointer none, .int .i64 p, v] w fun e w' => e = .returned (.int .i64 2) ∧ w' = w := by
  go_enter Try.func22, Try.ntmps22
  go_wp2
  go_ret
  exact ⟨rfl, rfl⟩
theorem nil_erase (w : World) (p : Int) : Calls Try.prog 15 #[.pointer none, .int .i64 p] w fun e w' => e = .returned (.int .i64 2) ∧ w' = w := by
  go_enter Try.func15, Try.ntmps15
  go_wp2
  go_ret
  exact ⟨rfl, rfl⟩
theorem nil_load (w : World) (v : Value) : Calls Try.prog 31 #[.pointer none, v] w fun e w' => e = .returned (.int .i64 2) ∧ w' = w := by
  go_enter Try.func31, Try.ntmps31
  go_wp2
  go_ret
  exact ⟨rfl, rfl⟩
theorem nil_erases (w : World) (p : Int) : Calls Try.prog 28 #[.pointer none, .int .i64 p] w fun e w' => e = .returned (.int .i64 0) ∧ w' = w := by
  go_enter Try.func28, Try.ntmps28
  go_wp2
  go_ret
  exact ⟨rfl, rfl⟩
theorem nil_power (w : World) : Calls Try.prog 14 #[.pointer none] w fun e w' => e = .returned (.pointer none) ∧ w' = w := by
  go_enter Try.func14, Try.ntmps14
  go_wp2
  go_ret
  exact ⟨rfl, rfl⟩
theorem nil_geometry (w : World) : Calls Try.prog 13 #[.pointer none] w fun e w' => e = .returned (.agg #[.int .i64 0, .int .i64 0, .int .i64 0, .int .i64 0, .int .i64 0]) ∧ Below w.heap.size w w' := by
  go_enter Try.func13, Try.ntmps13
  go_wp2
  refine bodyPost_ret (results_cell_row rfl _ _ w.heap.size 23 _ (0, 0) _ rfl (Blk.new w _ _) Try.underlying23 rfl (by kernel_rfl)) rfl ⟨rfl, ?_⟩
  exact (Below.refl _ _).alloc (Nat.le_refl _) _

theorem Blk.row {w : World} {g : Nat} {xs : List Int} (h : Blk w g (bv xs).toArray 5) (hx : Bys xs) (n : Nat) (hn : xs.length = n) (hl : n ≤ 1000000) : Row w (.slice (some ⟨g, 0, none⟩) n n) xs := by
  subst hn
  refine Row.mk (off := 0) (Nat.le_refl _) (by unfold maxLen; omega) (fun i hi => ?_) hx
  rw [Nat.zero_add]
  exact h.byteAt hi
theorem read_all (bs : List Int) (n : Nat) (hn : bs.length = n) : readS bs 0 n = (0, bs) := by
  unfold readS
  have h1 : hasS bs.length 0 n = true := by simp [hasS]; omega
  rw [h1, if_pos rfl]
  simp [← hn]

/-- What the last region holds. -/
abbrev HoldR (W : World) (s : Nat) (a b c d e : Int) (w : World) : Prop :=
  (w.cell? ⟨s, 0, none⟩ = some (.int .i64 a) ∧ w.cell? ⟨s, 1, none⟩ = some (.int .i64 b) ∧ w.cell? ⟨s, 2, none⟩ = some (.int .i64 c) ∧ w.cell? ⟨s, 3, none⟩ = some (.int .i64 d) ∧ w.cell? ⟨s, 4, none⟩ = some (.int .i64 e)) ∧ (Blk w s (gcells a b c d e) 23 ∧ Below W.heap.size W w)
theorem holdR_below {W : World} {s : Nat} {a b c d e : Int} {w w' : World} (hb : Below w.heap.size w w') (h : HoldR W s a b c d e w) : HoldR W s a b c d e w' :=
  have k := holdG_below (s := s) hb ⟨h.1, h.2.1⟩
  ⟨k.1, k.2, h.2.2.trans (hb.mono h.2.2.size)⟩
theorem holdR_alloc {W : World} {s : Nat} {a b c d e : Int} {w : World} (o : Obj) (h : HoldR W s a b c d e w) : HoldR W s a b c d e (w.alloc o) := holdR_below ((Below.refl _ _).alloc (Nat.le_refl _) _) h
theorem holdR_drew {W : World} {s : Nat} {a b c d e : Int} {w : World} (h : HoldR W s a b c d e w) : HoldR W s a b c d e w.drew := holdR_below (Below.refl _ _).drew h
theorem eqGeo0 (w : World) : (binOp .eql 23 (.agg #[.int .i64 0, .int .i64 0, .int .i64 0, .int .i64 0, .int .i64 0]) (.agg #[.int .i64 0, .int .i64 0, .int .i64 0, .int .i64 0, .int .i64 0])).run Try.prog w = .ok (.bool true) w := by kernel_rfl

set_option maxRecDepth 100000 in
set_option maxHeartbeats 8000000 in
theorem NorRight_walk (ga gb gc gd ge : Int) (bv0 : Value) (b : List Int) (w : World) (w0 : (Lit.int .i64 ga).wf = true) (w1 : IRow .u8 w bv0 b) :
    Calls Try.prog 5 #[.agg (gcells ga gb gc gd ge), bv0] w fun e w' => e = .returned (.bool true) ∧ Below w.heap.size w w' := by
  have rb := w1.bytes
  have hbm := rb.len
  unfold maxLen at hbm
  obtain ⟨bo, bcap, hbv⟩ := rb.of_len
  subst hbv
  have HRB := hide rb
  clear rb w1
  have hG0 : Blk (w.alloc (.cells (gcells ga gb gc gd ge) 23)) w.heap.size (gcells ga gb gc gd ge) 23 := Blk.new w _ _
  have hB0 : Below w.heap.size w (w.alloc (.cells (gcells ga gb gc gd ge) 23)) := (Below.refl _ _).alloc (Nat.le_refl _) _
  generalize hLB : b.length = lb at *
  have HLB := hide hLB
  clear hLB
  have hnil := fun w => NewNor_nil w ga gb gc gd ge w0
  have hplay := fun w => play_any w ga gb gc gd ge
  have hri := fun w => Right_any w ga gb gc gd ge w0
  have hrri := fun w => RRight_any w ga gb gc gd ge w0
  generalize hR : rightS ga gb gc gd ge = R at hnil hri hrri
  clear hR
  generalize hr0 : (if R = true then (0 : Int) else 1) = r at hnil
  have hrz : (r == 0) = R := by rw [← hr0]; cases R <;> rfl
  clear hr0
  by_cases hbig : (5000 : Int) < lb
  · go_enter Try.func5, Try.ntmps5
    go_wp2_with fail
    refine (awake_any _).mono ?_
    rintro e w4 ⟨rfl, hb4⟩
    go_wp2
    go_ret
    exact ⟨rfl, hB0.trans (hb4.mono (by simp))⟩
  · unfold gcells at hnil hplay hri hrri hG0 hB0 ⊢
    go_enter Try.func5, Try.ntmps5
    go_wp2_with fail
    generalize hW1 : w.alloc (.cells #[.int .i64 ga, .int .i64 gb, .int .i64 gc, .int .i64 gd, .int .i64 ge] 23) = W1 at *
    clear hW1
    refine (hnil _).mono ?_
    rintro e W2 ⟨p0, rfl, hb2⟩
    have hs1 := hG0.lt
    have hB2 := hB0.trans (hb2.mono (by omega))
    have hG2 := hG0.below hb2 hG0.lt
    clear hb2 hB0 hG0
    have c0 := hG2.cell 0
    have c1 := hG2.cell 1
    have c2 := hG2.cell 2
    have c3 := hG2.cell 3
    have c4 := hG2.cell 4
    simp at c0 c1 c2 c3 c4
    go_wp2_with fail
    refine (hplay _).mono ?_
    rintro e W3 ⟨A, B, hc, hd, he, rfl, hr, hb3⟩
    have hs2 := hG2.lt
    have hB3 := hB2.trans (hb3.mono (by omega))
    have hG3 := hG2.below hb3 hG2.lt
    clear hb3 hB2 c0 c1 c2 c3 c4
    go_wp2_with fail
    have hg3 : Below w.heap.size w (W3.alloc (.cells #[.int .i64 A, .int .i64 B, .int .i64 hc, .int .i64 hd, .int .i64 he] 23)) := hB3.alloc (by have := hG3.lt; omega) _
    have hG4 : Blk (W3.alloc (.cells #[.int .i64 A, .int .i64 B, .int .i64 hc, .int .i64 hd, .int .i64 he] 23)) w.heap.size #[.int .i64 ga, .int .i64 gb, .int .i64 gc, .int .i64 gd, .int .i64 ge] 23 := hG3.kept (World.grownBy_alloc _ _ none) (by simp)
    have hH4 : HoldG W3.heap.size A B hc hd he (W3.alloc (.cells #[.int .i64 A, .int .i64 B, .int .i64 hc, .int .i64 hd, .int .i64 he] 23)) := holdG_of (Blk.new W3 _ _)
    have hsz4 : w.heap.size < W3.heap.size := hG3.lt
    generalize W3.alloc (.cells #[.int .i64 A, .int .i64 B, .int .i64 hc, .int .i64 hd, .int .i64 he] 23) = W4 at *
    generalize hS3 : W3.heap.size = s3 at *
    clear hS3 hB3 hG3 hG2
    go_region_held3 (fun w' => (w'.cell? ⟨s3, 0, none⟩ = some (.int .i64 A) ∧ w'.cell? ⟨s3, 1, none⟩ = some (.int .i64 B) ∧ w'.cell? ⟨s3, 2, none⟩ = some (.int .i64 hc) ∧ w'.cell? ⟨s3, 3, none⟩ = some (.int .i64 hd) ∧ w'.cell? ⟨s3, 4, none⟩ = some (.int .i64 he)) ∧ Blk w' s3 (gcells A B hc hd he) 23)
      (first
        | assumption
        | exact holdG_below hm17.below (by assumption)
        | exact holdG_drew (by assumption)
        | exact holdG_alloc _ (by assumption))
      (first
        | (go_at_call 8; refine (New_any _).mono ?_; rintro e w16 ⟨rfl, rfl⟩)
        | (go_at_call 10; refine (NewNor_right _ A B hc hd he _ hr).mono ?_; rintro e w17 ⟨k17, bb17, eb17, rfl, hm17⟩))
    have hH17 : HoldG s3 A B hc hd he w17 := by assumption
    have hK := hm17.kept2 (w0 := W4) (Below.refl _ _) rfl (Below.refl _ _).drew
    have ok := NSt.new_ok hr 0
    have hbigN := ok.big
    have hbN : (NSt.new A B hc hd he).A * (NSt.new A B hc hd he).B = A * B := rfl
    clear hm17 hr
    generalize hL : (⟨k17, W4.heap.size, bb17, eb17⟩ : Lay) = L at *
    obtain rfl : k17 = L.c := by rw [← hL]
    clear hL
    generalize hbase : w17.heap.size = base at *
    generalize NSt.new A B hc hd he = N at *
    have hAB : 512 ≤ A * B ∧ A * B ≤ 65536 := by rw [← hbN]; exact hbigN
    have hmul : (B : Int) * (A : Int) = ((A * B : Nat) : Int) := by rw [Int.mul_comm]; simp
    have m1 := fun w => run_make_bytes w (A * B) hAB.2
    have d0 := hH17.1.1
    have d1 := hH17.1.2.1
    have hrb := HRB.out.below hg3
    have hs4 : w.heap.size < W4.heap.size := hG4.lt
    -- the copy
    have hx5 : Blk (w17.alloc (.cells (bv (List.replicate (A * B) 0)).toArray 5)) base (bv (List.replicate (A * B) 0)).toArray 5 := hbase ▸ Blk.new w17 _ _
    have hK5 := hK.alloc (.cells (bv (List.replicate (A * B) 0)).toArray 5)
    obtain ⟨W6, hcp, hb6, hg6⟩ := run_copy_any _ base (List.replicate (A * B) 0) (.slice bo lb bcap) b hx5 (hrb.below hK5.below) (A * B) (by simp)
    have hK6 := hK5.other (only_grown hg6 (l := [base]) (fun k e => by cases e; simp)) (Nat.le_refl _)
    obtain ⟨xs, hxs⟩ : ∃ xs, xs = b.take (A * B) ++ (List.replicate (A * B) 0).drop b.length := ⟨_, rfl⟩
    have hxl : xs.length = A * B := by rw [hxs]; simp; omega
    have hxb : Bys xs := by
      rw [hxs]
      exact (hrb.bys.take _).app (fun z hz => by have := List.mem_of_mem_drop hz; simp at this; omega)
    have hxe : b.length = A * B → xs = b := by
      intro e
      rw [hxs, List.take_of_length_le (by omega), List.drop_of_length_le (by simp; omega), List.append_nil]
    rw [← hxs] at hb6
    rw [HLB.out] at hcp hxe
    have HXE := hide hxe
    have HXL := hide hxl
    clear hxs hxe hx5 hK5 hg6 hK hH17
    have hrx6 := hb6.row hxb (A * B) hxl (by omega)
    clear hxl
    generalize hLL : A * B = len at *
    have hsz6 : base + 1 ≤ W6.heap.size := hb6.lt
    go_wp2_with (at_builtin; refine wpList_append_row rfl _ _ rfl (base + 1) _ _ [] xs rfl (Own.nil _ _) rfl hrx6 (by rw [List.length_nil, HXL.out]; omega) hsz6 ?_)
    intro v11 W7 hown hg7
    try rw [List.nil_append] at hown
    have hK7 := hK6.still (only_grown hg7 (fun k e => by cases e))
    have hb7 := hb6.kept hg7 (by simp [Value.ownBlock])
    have hfrom12 := hown.from
    have hfrom11 : ∀ b off n cap, v11 = .slice (some ⟨b, off, none⟩) n cap → base ≤ b := fun b off n cap e => by have := hfrom12 b off n cap e; omega
    have hr11 := hown.row
    obtain ⟨xo, xcap, rfl⟩ := hr11.of_len
    rw [HXL.out] at hr11 hfrom11 hfrom12 ⊢
    have hl1 := Load_any base W7 L PSt.zero N 0 hK7.dev ok _ xs (hb7.row hxb len HXL.out (by omega))
    rw [if_pos (by rw [HXL.out, hbN]), if_pos (by rw [HXL.out, hbN])] at hl1
    clear hown hg7 hb6 hrx6 hK6 hsz6
    go_wp2_with fail
    refine hl1.mono ?_
    rintro e W8 ⟨rfl, hD8, hO8⟩
    have hK8 := hK7.turn hD8 (hO8.wide (by simp))
    have ok8 := ok.bytes (xs := xs) (by rw [HXL.out, ok.len, hbN]) hxb
    have hl2 := Load_any base W8 L PSt.zero { N with bs := xs } 0 hK8.dev ok8 _ b (hrb.below hK8.below)
    simp only at hl2
    rw [hbN, HLB.out] at hl2
    have hbx : (if lb = len then b else xs) = xs := by
      by_cases e : lb = len
      · rw [if_pos e, HXE.out e]
      · rw [if_neg e]
    rw [hbx] at hl2
    have hlt8 := hK8.dev.2.lt
    have hb8 := hb7.only hO8 (by simp; omega)
    have hr118 := hK7.rowKept hfrom11 hr11 (hO8.wide (by simp))
    generalize hr2 : (if lb = len then (0 : Int) else 1) = r2 at hl2
    have hr2z : (r2 == 0) = ((lb : Int) == (len : Int)) := by
      rw [← hr2]
      by_cases e : lb = len
      · rw [if_pos e, e]; simp
      · rw [if_neg e]
        symm
        rw [show ((1 : Int) == 0) = false from rfl, beq_eq_false_iff_ne]
        omega
    clear hr2 hbx hl1 hD8 hO8 hK7 hb7 hr11
    go_wp2_with fail
    refine hl2.mono ?_
    rintro e W9 ⟨rfl, hD9, hO9⟩
    have hK9 := hK8.turn hD9 (hO9.wide (by simp))
    have hb9 := hb8.only hO9 (by simp; omega)
    have hr119 := hK8.rowKept hfrom11 hr118 (hO9.wide (by simp))
    have hc9 := hb9.byteAt (j := 0) (by rw [HXL.out]; omega)
    have hf9 := hb9.frozen 0
    have hK10 := hK9.other (only_setCell W9 base 0 (.int .u8 (bits .xor .u8 (xs.getD 0 0) 1)) [base] (by simp)) (Nat.le_refl _)
    have hne11 : ∀ vb off n cap, Value.slice xo len xcap = .slice (some ⟨vb, off, none⟩) n cap → vb ∉ [base] := fun vb off n cap e => by have := hfrom12 vb off n cap e; simp; omega
    have hr1110 := hr119.only (only_setCell W9 base 0 (.int .u8 (bits .xor .u8 (xs.getD 0 0) 1)) [base] (by simp)) hne11
    have hrd := Read_any base _ L { N with bs := xs } 0 hK10.dev.2 ok8 0 len (by decide) (wf_i64 (by omega) (by omega))
    simp only at hrd
    rw [read_all xs len HXL.out] at hrd
    generalize xs.getD 0 0 = x0 at *
    clear hl2 hD9 hO9 hK8 hb8 hr118 hK9
    go_wp2_with fail
    refine hrd.mono ?_
    rintro e W11 ⟨v14, rfl, hown14, hb11⟩
    have hK11 := hK10.below' hb11
    have hr14 := hown14.row
    have hr11f := hr1110.below hb11
    obtain ⟨yo, ycap, rfl⟩ := hr14.of_len
    rw [HXL.out] at hr14 ⊢
    clear hrd hown14 hb11 hr1110 hr119 hb9 hc9 hf9 hK10
    go_wp2_with fail
    refine (nil_read _ 0 1).mono ?_
    rintro e W12 ⟨rfl, rfl⟩
    have hG12 := hG4.below hK11.below hs4
    have hH12 : HoldR W12 w.heap.size ga gb gc gd ge W12 := ⟨⟨(hG12.cell 0).trans rfl, (hG12.cell 1).trans rfl, (hG12.cell 2).trans rfl, (hG12.cell 3).trans rfl, (hG12.cell 4).trans rfl⟩, hG12, Below.refl _ _⟩
    have hfin : ∀ w', Below W12.heap.size W12 w' → Below w.heap.size w w' := by
      intro w' hb
      have h1 := hK11.below.size
      have h2 := hg3.size
      exact (hg3.trans (hK11.below.mono (by omega))).trans (hb.mono (by omega))
    have HFIN := hide hfin
    have heq := eqGeo0
    clear hfin hG12 hK11 hG4 hnil hplay hcp m1
    go_wp2_with fail
    simp only [List.append_eq, List.cons_append, List.nil_append]
    go_region_held3 (fun w' => (w'.cell? ⟨w.heap.size, 0, none⟩ = some (.int .i64 ga) ∧ w'.cell? ⟨w.heap.size, 1, none⟩ = some (.int .i64 gb) ∧ w'.cell? ⟨w.heap.size, 2, none⟩ = some (.int .i64 gc) ∧ w'.cell? ⟨w.heap.size, 3, none⟩ = some (.int .i64 gd) ∧ w'.cell? ⟨w.heap.size, 4, none⟩ = some (.int .i64 ge)) ∧ (Blk w' w.heap.size (gcells ga gb gc gd ge) 23 ∧ Below W12.heap.size W12 w'))
      (first
        | assumption
        | exact holdR_below hb41 (by assumption)
        | exact holdR_below hb42 (by assumption)
        | exact holdR_drew (by assumption)
        | exact holdR_alloc _ (by assumption))
      (first
        | (go_at_call 12; refine (awake_any _).mono ?_; rintro e w41 ⟨rfl, hb41⟩)
        | (go_at_call 32; refine (hri _).mono ?_; rintro e w43 ⟨rfl, rfl⟩)
        | (go_at_call 33; refine (hrri _).mono ?_; rintro e w44 ⟨rfl, rfl⟩)
        | (go_at_call 27; refine (Bytes_any _ _ _ xs xs (hr14.below (And.right (And.right (by assumption : HoldR W12 w.heap.size ga gb gc gd ge _)))) (hr11f.below (And.right (And.right (by assumption : HoldR W12 w.heap.size ga gb gc gd ge _))))).mono ?_; rintro e w45 ⟨rfl, rfl⟩; rw [decide_eq_true (rfl : xs = xs)])
        | (go_at_call 22; refine (nil_program _ _ _).mono ?_; rintro e w46 ⟨rfl, rfl⟩)
        | (go_at_call 15; refine (nil_erase _ _).mono ?_; rintro e w47 ⟨rfl, rfl⟩)
        | (go_at_call 31; refine (nil_load _ _).mono ?_; rintro e w48 ⟨rfl, rfl⟩)
        | (go_at_call 28; refine (nil_erases _ _).mono ?_; rintro e w49 ⟨rfl, rfl⟩)
        | (go_at_call 14; refine (nil_power _).mono ?_; rintro e w50 ⟨rfl, rfl⟩)
        | (go_at_call 13; refine (nil_geometry _).mono ?_; rintro e w42 ⟨rfl, hb42⟩))
    all_goals go_wp2
    all_goals go_ret
    all_goals exact ⟨rfl, HFIN.out _ (And.right (And.right (by assumption : HoldR W12 w.heap.size ga gb gc gd ge _)))⟩
end Go.Proofs.Ytnlfhapnclfonaa
