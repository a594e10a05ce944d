/-
  What a program that does nothing does not answer: garretlaw04.awake; a small geometry; a new chip with a new power.
-/
import Derived.Test.YtnlfhapnclfonaaRefErase
import Derived.Test.YtnlfhapnclfonaaHelp
namespace Go.Proofs.Ytnlfhapnclfonaa
open Go.RowKit
set_option linter.unusedVariables false

theorem PowN.new (w : World) (base : Nat) (hb : w.heap.size < base) : PowN base (w.alloc (.cells (pcells PSt.zero none) 67)) w.heap.size PSt.zero :=
  ⟨Blk.new _ _ _, rfl, hb⟩
theorem PSt.zero_ok (n : Nat) : PSt.zero.Ok n := ⟨by decide, by simp [PSt.zero]; try omega, by decide, by decide, by decide⟩
def NSt.new (A B : Nat) (c d e : Int) : NSt := ⟨A, B, c, d, e, List.replicate (A * B) 255, List.replicate A 0⟩
theorem NSt.new_ok {A B : Nat} {c d e : Int} (hr : rightS A B c d e = true) (n : Nat) : (NSt.new A B c d e).Ok n := by
  have hu := rightS_of hr
  refine ⟨?_, ?_, ?_, ?_, ?_, ?_, ?_, ?_⟩
  · show 2 ≤ A; omega
  · show A ≤ 16; omega
  · show 256 ≤ B; omega
  · show B ≤ 4096; omega
  · simp [NSt.new]
  · simp [NSt.new]
  · intro x hx; simp [NSt.new] at hx; omega
  · intro x hx; simp [NSt.new] at hx; omega
theorem Made.chip {t : TypeId} {w w' : World} {k bb eb A B pb : Nat} {c d e : Int} (h : Made t w w' k bb eb A B c d e (some ⟨pb, 0, none⟩)) (hpb : pb < w.heap.size) (base : Nat) (hb : w'.heap.size ≤ base) : Chip t base w' ⟨k, pb, bb, eb⟩ (NSt.new A B c d e) := by
  have h1 := h.blk.lt
  have h2 := h.byt.lt
  have h3 := h.ers.lt
  have h4 := h.below.size
  obtain ⟨l1, l2, l3⟩ := h.lo
  obtain ⟨n1, n2, n3⟩ := h.ne
  refine ⟨h.blk, h.byt, h.ers, ⟨?_, ?_, ?_, ?_⟩, ?_, ?_, ?_, ?_, ?_, ?_⟩ <;> simp only <;> omega

set_option maxHeartbeats 1000000 in
theorem small_any (w : World) : Calls Try.prog 34 #[] w fun x w' => ∃ (A B : Nat) (c d e : Int), x = .returned (.agg (gcells A B c d e)) ∧ rightS A B c d e = true ∧ Below w.heap.size w w' := by
  have hp := fun w => play_any w 0 0 0 0 0
  unfold gcells at hp
  go_enter Try.func34, Try.ntmps34
  go_wp2_with fail
  refine (hp _).mono ?_
  rintro e w1 ⟨A, B, c, d, e, rfl, hr, hB⟩
  have hb := (Blk.new w #[.int .i64 0, .int .i64 0, .int .i64 0, .int .i64 0, .int .i64 0] 23).below hB (by simp)
  have c0 := hb.cell 0
  have c1 := hb.cell 1
  have c2 := hb.cell 2
  have c3 := hb.cell 3
  have c4 := hb.cell 4
  have f0 := hb.frozen 0
  have f1 := hb.frozen 1
  have f2 := hb.frozen 2
  have f3 := hb.frozen 3
  have f4 := hb.frozen 4
  simp at c0 c1 c2 c3 c4
  go_wp2
  have hfin := ((((hb.set 0 (.int .i64 A)).set 1 (.int .i64 B)).set 2 (.int .i64 c)).set 3 (.int .i64 d)).set 4 (.int .i64 e)
  have hB0 : Below w.heap.size w w1 := ((Below.refl _ _).alloc (Nat.le_refl _) _).trans (hB.mono (by simp))
  refine bodyPost_ret (results_cell_row rfl _ _ w.heap.size 23 _ (0, 0) _ rfl hfin Try.underlying23 rfl (by kernel_rfl)) rfl ⟨A, B, c, d, e, rfl, hr, ?_⟩
  exact ((((hB0.setCell (Nat.le_refl _) _).setCell (Nat.le_refl _) _).setCell (Nat.le_refl _) _).setCell (Nat.le_refl _) _).setCell (Nat.le_refl _) _

/-- A device that the walk keeps: its blocks are younger than w0, and nothing elder has turned. -/
structure Kept (w0 : World) (base : Nat) (w : World) (L : Lay) (S : PSt) (N : NSt) : Prop where
  dev : Dev base w L S N
  lo : w0.heap.size ≤ L.c ∧ w0.heap.size ≤ L.pb ∧ w0.heap.size ≤ L.bb ∧ w0.heap.size ≤ L.eb
  size : base ≤ w.heap.size
  below : Below w0.heap.size w0 w
theorem Dev.still {base : Nat} {w w' : World} {L : Lay} {S : PSt} {N : NSt} (h : Dev base w L S N) (hg : Only [] w w') : Dev base w' L S N :=
  ⟨h.1.only hg (by simp), h.2.only hg (by simp) (by simp) (by simp)⟩
theorem Kept.still {w0 : World} {base : Nat} {w w' : World} {L : Lay} {S : PSt} {N : NSt} (h : Kept w0 base w L S N) (hg : Only [] w w') : Kept w0 base w' L S N :=
  ⟨h.dev.still hg, h.lo, Nat.le_trans h.size hg.size, hg.below h.below (by simp) (by have := h.lo.1; have := h.dev.2.lt.1; have := h.size; omega)⟩
theorem Kept.turn {w0 : World} {base : Nat} {w w' : World} {L : Lay} {S S' : PSt} {N N' : NSt} (h : Kept w0 base w L S N) (hd : Dev base w' L S' N') (hg : Only [L.pb, L.bb, L.eb] w w') : Kept w0 base w' L S' N' := by
  obtain ⟨l1, l2, l3, l4⟩ := h.lo
  refine ⟨hd, h.lo, Nat.le_trans h.size hg.size, hg.below h.below ?_ (by have := h.dev.2.lt.1; have := h.size; omega)⟩
  intro k hk
  simp at hk
  rcases hk with rfl | rfl | rfl <;> assumption
theorem Kept.alloc {w0 : World} {base : Nat} {w : World} {L : Lay} {S : PSt} {N : NSt} (h : Kept w0 base w L S N) (o : Obj) : Kept w0 base (w.alloc o) L S N := h.still (only_grown (World.grownBy_alloc _ _ none) (by simp))
theorem Kept.below' {w0 : World} {base : Nat} {w w' : World} {L : Lay} {S : PSt} {N : NSt} (h : Kept w0 base w L S N) (hb : Below w.heap.size w w') : Kept w0 base w' L S N := h.still (only_below hb)
/-- Made behind w0. -/
theorem Made.kept {w0 w1 w2 w' : World} {k bb eb A B : Nat} {c d e : Int} (hb : Below w0.heap.size w0 w1) (hw : w2 = w1.alloc (.cells (pcells PSt.zero none) 67)) (h : Made 69 w2 w' k bb eb A B c d e (some ⟨w1.heap.size, 0, none⟩)) :
    Kept w0 w'.heap.size w' ⟨k, w1.heap.size, bb, eb⟩ PSt.zero (NSt.new A B c d e) := by
  have hs := hb.size
  have hs2 : w2.heap.size = w1.heap.size + 1 := by rw [hw]; simp
  have hs3 := h.below.size
  have hP : PowN w'.heap.size w2 w1.heap.size PSt.zero := hw ▸ PowN.new w1 _ (by omega)
  obtain ⟨l1, l2, l3⟩ := h.lo
  refine ⟨⟨hP.only (l := []) (only_below h.below) (by simp), h.chip (by omega) _ (Nat.le_refl _)⟩, ⟨?_, ?_, ?_, ?_⟩, Nat.le_refl _, ?_⟩
  · simp only; omega
  · simp only; omega
  · simp only; omega
  · simp only; omega
  · have h1 : Below w0.heap.size w0 w2 := hw ▸ hb.alloc hs _
    exact h1.trans (h.below.mono (by omega))

theorem rep_at (n j : Nat) (h : j < n) : (List.replicate n (255 : Int)).getD j 0 = 255 := by simp [List.getD, h]

/-- Bytes in a new block. -/
theorem row_new (w : World) (xs : List Int) (hx : Bys xs) (hl : xs.length ≤ 1000000) : Row (w.alloc (.cells (bv xs).toArray 5)) (.slice (some ⟨w.heap.size, 0, none⟩) xs.length xs.length) xs := by
  have hb := Blk.new w (bv xs).toArray 5
  refine Row.mk (off := 0) (Nat.le_refl _) (by unfold maxLen; omega) (fun i hi => ?_) hx
  rw [Nat.zero_add]
  exact hb.byteAt hi
theorem prog_ok_one (S S' : PSt) (bs : List Int) (x : Int) (h1 : 1 ≤ bs.length) (h2 : bits .andNot .u8 x (bs.getD 0 0) = 0) (hs : S.step = (true, false, S')) : progA S bs 0 [x] = (0, S', bs.set 0 x) := by
  have h : hasS bs.length 0 (([x] : List Int).length) = true := by simp [hasS]; omega
  unfold progA
  rw [h, if_pos rfl, show ((0 : Int).toNat) = 0 from rfl]
  simp only [sets, h2, progS, hs]
  rfl
theorem prog_bits_one (S : PSt) (bs : List Int) (x : Int) (h1 : 1 ≤ bs.length) (h2 : bits .andNot .u8 x (bs.getD 0 0) ≠ 0) : progA S bs 0 [x] = (9, S, bs) := by
  have h : hasS bs.length 0 (([x] : List Int).length) = true := by simp [hasS]; omega
  have h3 : (bits .andNot .u8 x (bs.getD 0 0) != 0) = true := by simpa using h2
  unfold progA
  rw [h, if_pos rfl, show ((0 : Int).toNat) = 0 from rfl]
  simp only [sets, h3]
  rfl
theorem read_two (bs : List Int) (x : Int) (n : Nat) (hb : bs = List.replicate n 255) (hn : 2 ≤ n) : readS (bs.set 0 x) 0 2 = (0, [x, 255]) := by
  subst hb
  unfold readS
  have h1 : hasS ((List.replicate n (255 : Int)).set 0 x).length 0 2 = true := by simp [hasS]; omega
  rw [h1, if_pos rfl]
  obtain ⟨m, rfl⟩ : ∃ m, n = m + 2 := ⟨n - 2, by omega⟩
  simp [List.replicate_succ]

set_option maxHeartbeats 2000000 in
theorem awake_any (w : World) : Calls Try.prog 12 #[] w fun e w' => e = .returned (.bool true) ∧ Below w.heap.size w w' := by
  go_enter Try.func12, Try.ntmps12
  go_wp2_with fail
  refine (small_any _).mono ?_
  rintro e w1 ⟨A, B, c, d, e, rfl, hr, hB1⟩
  go_wp2_with fail
  refine (New_any _).mono ?_
  rintro e w2 ⟨rfl, hw2⟩
  have HW2 := hide hw2
  clear hw2
  go_wp2_with fail
  refine (NewNor_right w2 A B c d e _ hr).mono ?_
  rintro e w3 ⟨k, bb, eb, rfl, hmade⟩
  have hK := hmade.kept hB1 HW2.out
  have ok := NSt.new_ok hr 0
  have hbig := ok.big
  have hlt := hK.dev.2.lt
  have hsz := hK.size
  clear HW2 hmade hB1 hr
  generalize hL : (⟨k, w1.heap.size, bb, eb⟩ : Lay) = L at *
  obtain rfl : k = L.c := by rw [← hL]
  have HP1 : Hid (w1.heap.size = L.pb) := by unfold Hid; rw [← hL]
  clear hL
  generalize hbase : w3.heap.size = base at *
  have HN : Hid ((NSt.new A B c d e).A * (NSt.new A B c d e).B = (NSt.new A B c d e).bs.length) := ok.len.symm
  have HBS : Hid ((NSt.new A B c d e).bs = List.replicate ((NSt.new A B c d e).A * (NSt.new A B c d e).B) 255) := rfl
  generalize NSt.new A B c d e = N at *
  have g0 : N.bs.getD 0 0 = 255 := by rw [HBS.out]; exact rep_at _ _ (by omega)
  have p1 := prog_ok_one PSt.zero ⟨false, false, 0, 0, 1, []⟩ N.bs 1 (by rw [← HN.out]; omega) (by rw [g0]; decide) rfl
  have p2 := prog_bits_one ⟨false, false, 0, 0, 1, []⟩ (N.bs.set 0 1) 2 (by rw [List.length_set, ← HN.out]; omega) (by rw [getD_set, if_pos ⟨rfl, by rw [← HN.out]; omega⟩]; decide)
  have r1 := read_two N.bs 1 (N.A * N.B) HBS.out (by omega)
  have HP := hide p1
  have HP2 := hide p2
  have HR := hide r1
  clear p1 p2 r1
  have ok2 := ok.bytes (xs := N.bs.set 0 1) (by simp) (ok.bys.set 0 (by omega))
  have hrow := row_new1 w3 1 (by omega)
  rw [hbase] at hrow
  have hpg := Program_any base _ L PSt.zero N 0 (hK.alloc (.cells #[.int .u8 1] 5)).dev (PSt.zero_ok 0) ok (by omega) 0 (by decide) _ [1] hrow (by simp) (by intro _ vb off n cap hv; simp at hv ⊢; omega)
  rw [HP.out] at hpg
  clear hrow
  go_wp2_with fail
  refine hpg.mono ?_
  rintro e w4 ⟨rfl, hD4, hO4⟩
  have hK4 := (hK.alloc (.cells #[.int .u8 1] 5)).turn hD4 (hO4.wide (by simp))
  clear hD4 hO4 hK
  go_wp2_with fail
  refine (Read_any base _ L _ 0 hK4.dev.2 ok2 0 2 (by decide) (by decide)).mono ?_
  rintro e w5 ⟨v, rfl, hown, hb5⟩
  simp only at hown
  rw [HR.out] at hown ⊢
  have hK5 := hK4.below' hb5
  obtain ⟨ao, cap, rfl⟩ := hown.row.of_len
  clear hb5 hK4
  simp only [List.length_cons, List.length_nil] at *
  have hrow2 : Row (w5.alloc (.cells #[.int .u8 1, .int .u8 255] 5)) (.slice (some ⟨w5.heap.size, 0, none⟩) 2 2) [1, 255] := row_new w5 [1, 255] (by intro x hx; simp at hx; omega) (by simp)
  have hby := Bytes_any _ _ _ _ _ (hown.row.below ((Below.refl _ w5).alloc (Nat.le_refl _) (.cells #[.int .u8 1, .int .u8 255] 5))) hrow2
  rw [show decide (([1, 255] : List Int) = [1, 255]) = true from by decide] at hby
  try simp only [List.length_cons, List.length_nil] at hby
  have hK6 := hK5.alloc (.cells #[.int .u8 1, .int .u8 255] 5)
  have hlt6 := hK6.dev.2.lt
  have hsz6 := hK6.size
  clear hrow2 hK5 hown
  generalize hW : w5.alloc (.cells #[.int .u8 1, .int .u8 255] 5) = w6 at *
  have HW := hide hW
  go_wp2_with fail
  try rw [hW]
  refine hby.mono ?_
  rintro e w7 ⟨rfl, rfl⟩
  clear hW
  have hrow3 : Row (w7.alloc (.cells #[.int .u8 2] 5)) (.slice (some ⟨w7.heap.size, 0, none⟩) 1 1) [2] := row_new1 w7 2 (by omega)
  have hpg2 := Program_any base _ L _ _ 1 (hK6.alloc (.cells #[.int .u8 2] 5)).dev ⟨by decide, by decide, by decide, by decide, by decide⟩ (ok2.more (by omega)) (by omega) 0 (by decide) _ [2] hrow3 (by simp) (by intro _ vb off n cap hv; simp at hv ⊢; omega)
  simp only at hpg2
  rw [HP2.out] at hpg2
  have hK8 := hK6.alloc (.cells #[.int .u8 2] 5)
  clear hrow3 hby hK6
  go_wp2_with fail
  refine hpg2.mono ?_
  rintro e w8 ⟨rfl, hD8, hO8⟩
  have hF := (hK8.turn hD8 (hO8.wide (by simp))).below
  go_wp2
  go_ret
  exact ⟨rfl, hF⟩
end Go.Proofs.Ytnlfhapnclfonaa
