/-
  The walk of garretlaw08.HalfRoom.
-/
import Derived.Test.YtgkgbbffgcmekaaAwake08
import Derived.Test.YtgkgbbffgcmekaaHalfF
import Derived.Test.YtgkgbbffgcmekaaRefHalf
import Derived.Test.YtgkgbbffgcmekaaGeoO
namespace Go.Proofs.Ytgkgbbffgcmekaa
open Go.RowKit
set_option linter.unusedVariables false
set_option maxRecDepth 100000

theorem clean_more {xs : List Int} {k : Nat} (h : k < xs.length) : clean (xs.take (k + 1)) = (clean (xs.take k) && (xs.getD k 0 == 255)) := by
  unfold clean
  rw [take_one_more h, List.all_append]
  simp
theorem clean_rep_take (n k : Nat) : clean ((List.replicate n 255).take k) = true := by rw [List.take_replicate]; exact clean_rep _

/-- What is left when as many bytes 0 as may be, or more, are appended to a new half. -/
theorem room_plain {N : NSt} (ok : N.Ok 0) {M : Nat} (hM : N.bs = List.replicate M 255) (hM2 : 2 * halfZ N ≤ M) {H n : Nat} (hH : H < 2) (hn : n ≤ 65000) :
    ∃ (cd : Int) (S1 : PSt) (bs1 : List Int), appH PSt.zero N H 0 (List.replicate n 0) = (cd, S1, bs1) ∧ part bs1 (1 - H) (halfZ N) = List.replicate (halfZ N) 255 ∧ ((n + 7 ≤ halfZ N ∧ cd = 0) ∨ (halfZ N < n + 7 ∧ cd = 10 ∧ part bs1 H (halfZ N) = List.replicate (halfZ N) 255)) := by
  by_cases h : n + 7 ≤ halfZ N
  · have ha := app_free (S := PSt.zero) (N := N) (H := H) (q := 0) (b := List.replicate n 0) ok hH (by simpa using hn) (by simp; omega) rfl rfl (fun j hj => by
      rw [hM, part_new _ hH hM2]
      exact getD_rep7 (by simp at hj; omega))
    refine ⟨_, _, _, ha, ?_, .inl ⟨h, rfl⟩⟩
    rw [part_over_ne (recB (List.replicate n 0)) 0 hH (by omega) (by omega) (by rw [recB_length]; simp; omega) (by rw [hM]; simp; omega), hM, part_new _ (by omega) hM2]
  · have ha : appH PSt.zero N H 0 (List.replicate n 0) = (10, PSt.zero, N.bs) := by
      unfold appH
      rw [if_neg (by rw [isHalf_nat hH]; simp), if_neg (by simp; omega), if_pos (by simp; omega)]
    exact ⟨_, _, _, ha, by rw [hM, part_new _ (by omega) hM2], .inr ⟨by omega, rfl, by rw [hM, part_new _ hH hM2]⟩⟩

set_option maxHeartbeats 800000 in
theorem HalfRoom_walk (ga gb gc gd ge h0 n0 : Int) (w : World) (w0 : GeoOk ga gb gc gd ge) (w1 : (Lit.int .i64 h0).wf = true) (w2 : (Lit.int .i64 n0).wf = true) :
    Calls Try.prog 5 #[.agg (gcells ga gb gc gd ge), .int .i64 h0, .int .i64 n0] w fun e w' => e = .returned (.bool true) ∧ Below w.heap.size w w' := by
  clear w0
  have hplay := fun w => play_any w ga gb gc gd ge
  have hB0 : Below w.heap.size w (w.alloc (.cells (gcells ga gb gc gd ge) 23)) := (Below.refl _ _).alloc (Nat.le_refl _) _
  have hG0 : Blk (w.alloc (.cells (gcells ga gb gc gd ge) 23)) w.heap.size (gcells ga gb gc gd ge) 23 := Blk.new w _ _
  obtain ⟨H, hH, hHq⟩ := cut_n h0 2 (by omega) (by omega)
  obtain ⟨K, hK0, hKq⟩ := cut_n n0 10 (by omega) (by omega)
  rw [show ((2 : Nat) : Int) = 2 from rfl] at hHq
  rw [show ((10 : Nat) : Int) = 10 from rfl] at hKq
  unfold gcells at hplay hB0 hG0 ⊢
  go_enter Try.func5, Try.ntmps5
  go_wp2_with fail
  generalize hW1 : w.alloc (.cells #[.int .i64 ga, .int .i64 gb, .int .i64 gc, .int .i64 gd, .int .i64 ge] 23) = W1 at *
  clear hW1
  refine (hplay _).mono ?_
  rintro e W2 ⟨A, B, hc, hd, he, rfl, hr, hb2⟩
  have hs1 := hG0.lt
  have hB2 := hB0.trans (hb2.mono (by omega))
  have hG2 := hG0.below hb2 hG0.lt
  clear hb2 hB0 hG0 hplay
  have c0 := hG2.cell 0
  have c1 := hG2.cell 1
  have c2 := hG2.cell 2
  have c3 := hG2.cell 3
  have c4 := hG2.cell 4
  have f0 := hG2.frozen 0
  have f1 := hG2.frozen 1
  have f2 := hG2.frozen 2
  have f3 := hG2.frozen 3
  have f4 := hG2.frozen 4
  simp at c0 c1 c2 c3 c4
  have hG3 := ((((hG2.set 0 (.int .i64 A)).set 1 (.int .i64 B)).set 2 (.int .i64 hc)).set 3 (.int .i64 hd)).set 4 (.int .i64 he)
  have hB3 : Below w.heap.size w (((((W2.setCell ⟨w.heap.size, 0, none⟩ (.int .i64 A)).setCell ⟨w.heap.size, 1, none⟩ (.int .i64 B)).setCell ⟨w.heap.size, 2, none⟩ (.int .i64 hc)).setCell ⟨w.heap.size, 3, none⟩ (.int .i64 hd)).setCell ⟨w.heap.size, 4, none⟩ (.int .i64 he)) := ((((hB2.setCell (Nat.le_refl _) _).setCell (Nat.le_refl _) _).setCell (Nat.le_refl _) _).setCell (Nat.le_refl _) _).setCell (Nat.le_refl _) _
  go_wp2_with fail
  generalize hW3 : ((((W2.setCell ⟨w.heap.size, 0, none⟩ (.int .i64 A)).setCell ⟨w.heap.size, 1, none⟩ (.int .i64 B)).setCell ⟨w.heap.size, 2, none⟩ (.int .i64 hc)).setCell ⟨w.heap.size, 3, none⟩ (.int .i64 hd)).setCell ⟨w.heap.size, 4, none⟩ (.int .i64 he) = W3 at *
  clear hW3 c0 c1 c2 c3 c4 f0 f1 f2 f3 f4 hG2 hB2
  have hH3 : HoldG w.heap.size A B hc hd he W3 := holdG_of hG3
  go_region_held3 (fun w' => (w'.cell? ⟨w.heap.size, 0, none⟩ = some (.int .i64 A) ∧ w'.cell? ⟨w.heap.size, 1, none⟩ = some (.int .i64 B) ∧ w'.cell? ⟨w.heap.size, 2, none⟩ = some (.int .i64 hc) ∧ w'.cell? ⟨w.heap.size, 3, none⟩ = some (.int .i64 hd) ∧ w'.cell? ⟨w.heap.size, 4, none⟩ = some (.int .i64 he)) ∧ Blk w' w.heap.size (gcells A B hc hd he) 23)
    (first
      | assumption
      | exact holdG_below hm17.below (by assumption)
      | exact holdG_drew (by assumption)
      | exact holdG_alloc _ (by assumption)
      | fail)
    (first
      | (go_at_call 8; refine (New_any _).mono ?_; rintro e w16 ⟨rfl, rfl⟩)
      | (go_at_call 10; refine (NewNor_right _ A B hc hd he _ hr).mono ?_; rintro e w17 ⟨k17, bb17, eb17, rfl, hm17⟩)
      | fail)
  have hK := hm17.kept2 (w0 := W3) (Below.refl _ _) rfl (Below.refl _ _).drew
  have ok := NSt.new_ok hr 0
  have hrg := RightG.new hr
  have hbig := halfZ_big ok
  have HZ : Hid (halfZ (NSt.new A B hc hd he) = A / 2 * B) := rfl
  have HBS : Hid ((NSt.new A B hc hd he).bs = List.replicate (A * B) 255) := rfl
  have HAB : Hid ((NSt.new A B hc hd he).A * (NSt.new A B hc hd he).B = A * B) := rfl
  clear hm17
  generalize hL : (⟨k17, W3.heap.size, bb17, eb17⟩ : Lay) = L at *
  obtain rfl : k17 = L.c := by rw [← hL]
  clear hL
  generalize hbase : w17.heap.size = base at *
  generalize NSt.new A B hc hd he = N at *
  have hsz := HSize_any
  have hZB : Hid (halfZ N = A / 2 * B) := HZ
  generalize hZ : halfZ N = Z at *
  have hs3lt := hG3.lt
  obtain ⟨n, hn⟩ : ∃ n : Nat, n = Z - 12 + K := ⟨_, rfl⟩
  have hn1 : (Z : Int) - 12 + (K : Int) = (n : Int) := by omega
  have m1 : ∀ w, (Instr.makeSlice 38 (.int .i64 ((Z : Int) - 12 + (K : Int))) (.int .i64 ((Z : Int) - 12 + (K : Int)))).run Try.prog w = .ok (.slice (some ⟨w.heap.size, 0, none⟩) n n) (w.alloc (.cells (bv (List.replicate n 0)).toArray 5)) := fun w => by
    rw [show (Z : Int) - 12 + (K : Int) = (n : Int) by omega]; exact run_make_bytes w n (by omega)
  obtain ⟨cd, S1, bs1, ha, hp1, hcd⟩ := room_plain ok (M := A * B) HBS.out (by rw [hZ, ← HAB.out]; exact hbig.2.2) hH (n := n) (by omega)
  have hl1 := appH_ok (h := (H : Int)) (q := 0) (b := List.replicate n 0) (PSt.zero_ok 0) ok (by intro x hx; simp at hx; omega)
  rw [ha] at hl1
  rw [hZ] at hp1 hcd
  simp only [List.length_replicate] at hl1
  obtain ⟨okS1, ok1⟩ := hl1
  have HA := hide ha
  have HCD := hide hcd
  have HP1 := hide hp1
  have HOKS := hide okS1
  have HOK1 := hide ok1
  have HOK := hide ok
  have HRG := hide hrg
  have HR := hide hr
  have HN0 := hide hn
  have hn2 : n ≤ 40000 := by omega
  clear ha hcd hp1 okS1 ok1 ok hrg hn hn1
  go_wp2_with fail
  refine (awake_any _).mono ?_
  rintro e w4 ⟨rfl, hb4⟩
  have hK4 := hK.below' hb4
  have hG4 := hG3.below hK4.below hs3lt
  have c0 := hG4.cell 0
  have c1 := hG4.cell 1
  have c2 := hG4.cell 2
  have c3 := hG4.cell 3
  have c4 := hG4.cell 4
  simp at c0 c1 c2 c3 c4
  have hs4 := hsz w4 A B hc hd he HR.out
  unfold gcells at hs4
  rw [← hZB.out] at hs4
  clear hb4 hK hG4 hr
  go_wp2_with fail
  refine hs4.mono ?_
  rintro e w5 ⟨rfl, hb5⟩
  have hK5 := hK4.below' hb5
  clear hs4 hb5 hK4 c0 c1 c2 c3 c4
  have hN6 : Row (w5.alloc (.cells (bv (List.replicate n 0)).toArray 5)) (.slice (some ⟨w5.heap.size, 0, none⟩) n n) (List.replicate n 0) := by
    have := row_new w5 (List.replicate n 0) (by intro x hx; simp at hx; omega) (by simp; omega)
    simpa using this
  have hK6 := hK5.alloc (.cells (bv (List.replicate n 0)).toArray 5)
  have happ := HAppend_any base _ L PSt.zero N 0 hK6.dev (PSt.zero_ok 0) HOK.out HRG.out (by omega) hK6.size (H : Int) 0 (by decide) _ _ hN6
  rw [HA.out] at happ
  simp only at happ
  clear hN6
  go_wp2_with fail
  refine happ.mono ?_
  rintro e w7 ⟨rfl, hD7, hO7⟩
  have hK7 := hK6.turn hD7 (hO7.wide (by simp))
  have hrd := HRead_any base w7 L { N with bs := bs1 } (0 + n + 7) hK7.dev.2 HOK1.out HRG.out (H : Int)
  rw [readH_part HOK1.out hH, show halfZ { N with bs := bs1 } = Z from hZ] at hrd
  simp only at hrd
  clear happ hD7 hO7 hK6 hK5 m1
  go_wp2_with fail
  refine hrd.mono ?_
  rintro e w8 ⟨v8, rfl, hown8, hb8⟩
  have hK8 := hK7.below' hb8
  have hH2 : (1 : Int) - (H : Int) = ((1 - H : Nat) : Int) := by omega
  have hrd2 := HRead_any base w8 L { N with bs := bs1 } (0 + n + 7) hK8.dev.2 HOK1.out HRG.out ((1 - H : Nat) : Int)
  rw [readH_part HOK1.out (H := 1 - H) (by omega), show halfZ { N with bs := bs1 } = Z from hZ] at hrd2
  simp only at hrd2
  rw [HP1.out] at hrd2
  clear hrd hb8 hK7
  go_wp2_with fail
  refine hrd2.mono ?_
  rintro e w9 ⟨v9, rfl, hown9, hb9⟩
  have hK9 := hK8.below' hb9
  have hrx := hown8.row.below hb9
  have hry := hown9.row
  have hXl : (part bs1 H Z).length = Z := by rw [← hZ]; exact part_length (part_fits HOK1.out hH)
  have hcdX : (n + 7 ≤ Z ∧ cd = 0) ∨ (Z < n + 7 ∧ cd = 10 ∧ part bs1 H Z = List.replicate Z 255) := HCD.out
  generalize part bs1 H Z = X at *
  obtain ⟨xb, xo, xc, rfl, _, _, hxc⟩ := hrx.at (List.length_pos_iff.1 (by rw [hXl]; omega))
  obtain ⟨yb, yo, yc, rfl, _, _, hyc⟩ := hry.at (List.length_pos_iff.1 (by simp; omega))
  have hyc' : ∀ i, i < Z → w9.cell? ⟨yb, yo + i, none⟩ = some (.int .u8 255) := fun i hi => by
    have := hyc i (by simpa using hi)
    rwa [getD_rep7 hi] at this
  rw [hXl] at hxc ⊢
  rw [List.length_replicate]
  have HXL := hide hXl
  have HCX := hide hcdX
  clear hrd2 hb9 hK8 hrx hry hown8 hown9 hXl hcdX hyc HCD HP1 HA
  go_wp2_with fail
  go_loop [15, 16] (fun b i => ∃ k : Nat, k ≤ Z ∧ i = .int .i64 k ∧ b = .bool (clean (X.take k))) (fun _ i => Z - (intOf i).toNat)
  case atStart => exact ⟨0, Nat.zero_le _, rfl, rfl⟩
  case round =>
    obtain ⟨k, hk, rfl, rfl⟩ := hrel
    by_cases hlt : k < Z
    · have hc := hxc k hlt
      have hm := clean_more (xs := X) (k := k) (by rw [HXL.out]; exact hlt)
      obtain ⟨x, hx⟩ : ∃ x, X.getD k 0 = x := ⟨_, rfl⟩
      rw [hx] at hc hm
      clear hx hxc
      cases hcl : clean (X.take k) with
      | false =>
        rw [hcl, Bool.false_and] at hm
        have HM := hide hm
        clear hm hcl
        go_wp2
        go_round
        case rel => exact ⟨k + 1, by omega, by go_num, by rw [HM.out]⟩
        case measure => simp [intOf]; omega
      | true =>
        rw [hcl, Bool.true_and] at hm
        have HM := hide hm
        clear hm hcl
        go_wp2
        go_round
        case rel => exact ⟨k + 1, by omega, by go_num, by rw [HM.out]⟩
        case measure => simp [intOf]; omega
    · obtain rfl : k = Z := by omega
      rw [List.take_of_length_le (by rw [HXL.out]; exact Nat.le_refl _)]
      obtain ⟨bl, hbl⟩ : ∃ b, clean X = b := ⟨_, rfl⟩
      rw [hbl]
      have HBL := hide hbl
      clear hbl
      go_wp2_with fail
      go_loop [17] (fun i => ∃ j : Nat, j ≤ k ∧ i = .int .i64 j) (fun i => k - (intOf i).toNat)
      case atStart => exact ⟨0, Nat.zero_le _, rfl⟩
      case round =>
        obtain ⟨j, hj, rfl⟩ := hrel
        by_cases hlt : j < k
        · have hc := hyc' j hlt
          go_wp2
          go_round
          case rel => exact ⟨j + 1, by omega, by go_num⟩
          case measure => simp [intOf]; omega
        · obtain rfl : j = k := by omega
          clear hyc' hxc
          have hG9 := hG3.below hK9.below hs3lt
          have c0 := hG9.cell 0
          have c1 := hG9.cell 1
          have c2 := hG9.cell 2
          have c3 := hG9.cell 3
          have c4 := hG9.cell 4
          simp at c0 c1 c2 c3 c4
          have hrh := RHalfSize_any w9 A B hc hd he HR.out
          unfold gcells at hrh
          rw [← hZB.out] at hrh
          have hw0 := fun w => HSize_wrong w 0 0 0 0 0 (by decide) (by decide)
          unfold gcells at hw0
          have hcase : (n + 7 ≤ j ∧ cd = 0) ∨ (j < n + 7 ∧ cd = 10 ∧ bl = true) := by
            rcases HCX.out with h | ⟨h1, h2, h3⟩
            · exact .inl h
            · refine .inr ⟨h1, h2, ?_⟩
              rw [← HBL.out, h3]
              exact clean_rep _
          have hnn := HN0.out
          have happ1 := fun w' (hd : Dev base w' L S1 { N with bs := bs1 }) (hs : base ≤ w'.heap.size) => HAppend_any base w' L S1 { N with bs := bs1 } (0 + n + 7) hd HOKS.out HOK1.out HRG.out (by omega) hs (H : Int) (-1) (by decide) (.slice none 0 0) [] (Row.nil _)
          have happ2 := fun w' (hd : Dev base w' L S1 { N with bs := bs1 }) (hs : base ≤ w'.heap.size) => HAppend_any base w' L S1 { N with bs := bs1 } (0 + n + 7) hd HOKS.out HOK1.out HRG.out (by omega) hs 2 0 (by decide) (.slice none 0 0) [] (Row.nil _)
          have a1 : appH S1 { N with bs := bs1 } (H : Int) (-1) [] = (1, S1, bs1) := by unfold appH; rw [if_pos (.inr (by omega))]
          have a2 : appH S1 { N with bs := bs1 } 2 0 [] = (1, S1, bs1) := by unfold appH; rw [if_pos (.inl (by decide))]
          rw [a1] at happ1
          rw [a2] at happ2
          simp only at happ1 happ2
          have hend : ∀ w', Kept W3 base w' L S1 { N with bs := bs1 } → Below w.heap.size w w' := fun w' h => hB3.trans (h.below.mono (by omega))
          have HE := hide hend
          clear hend a1 a2
          rcases hcase with ⟨hfit, rfl⟩ | ⟨hfit, rfl, rfl⟩
          case' inl => have hfit' : (j : Int) - 12 + (K : Int) + 7 ≤ (j : Int) := by omega
          case' inr => have hfit' : ¬ ((j : Int) - 12 + (K : Int) + 7 ≤ (j : Int)) := by omega
          all_goals
            clear hnn hfit hG9
            go_wp2_with fail
            refine (HReadNil_any _ 0).mono ?_
            rintro e w10 ⟨rfl, rfl⟩
            go_wp2_with fail
            refine hrh.mono ?_
            rintro e w11 ⟨rfl, hb11⟩
            have hK11 := hK9.below' hb11
            clear hrh hb11
            go_wp2_with fail
            refine (hw0 _).mono ?_
            rintro e w12 ⟨rfl, hb12⟩
            have hK12 := hK11.below' hb12
            clear hw0 hb12 hK11
            go_wp2_with fail
            refine (HWipeNil_any _ 0).mono ?_
            rintro e w13 ⟨rfl, rfl⟩
            go_wp2_with fail
            refine (HAppendNil_any _ 0 0 _).mono ?_
            rintro e w14 ⟨rfl, rfl⟩
            have ha1 := happ1 _ hK12.dev hK12.size
            clear happ1
            go_wp2_with fail
            refine ha1.mono ?_
            rintro e w15 ⟨rfl, hD15, hO15⟩
            have hK15 := hK12.turn hD15 (hO15.wide (by simp))
            have ha2 := happ2 _ hK15.dev hK15.size
            clear ha1 hD15 hO15 happ2 hK12
            go_wp2_with fail
            refine ha2.mono ?_
            rintro e w16 ⟨rfl, hD16, hO16⟩
            have hK16 := hK15.turn hD16 (hO16.wide (by simp))
            clear ha2 hD16 hO16
            go_wp2
            go_ret
            exact ⟨rfl, HE.out _ hK16⟩
end Go.Proofs.Ytgkgbbffgcmekaa
