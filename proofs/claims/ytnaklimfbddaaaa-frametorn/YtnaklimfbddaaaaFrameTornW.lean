/-
  The walk of garretlaw07.FrameTorn.
-/
import Derived.Test.YtnaklimfbddaaaaAwake07
import Derived.Test.YtnaklimfbddaaaaSame2
import Derived.Test.YtnaklimfbddaaaaFrameT
import Derived.Deep.CutBlock
import Derived.Deep.DeepCutAuto
namespace Go.Proofs.Ytnaklimfbddaaaa
open Go.RowKit
set_option linter.unusedVariables false
set_option maxRecDepth 100000

theorem FrameTorn_open0 (w : World) : Opens Try.prog w 28 (fun cs => ∃ v bss, cs = [v] ∧ VRow w v bss) := opens_vrow w
theorem infoInt7 : (Try.prog.info? 3).map (fun i => (i.zero, i.size, i.bytes)) = some (some (.int .i64 0), 1, 8) := by kernel_rfl
theorem irow_one7 (w : World) (x : Int) (hx : (Lit.int .i64 x).wf = true) : IRow .i64 (w.alloc (.cells #[.int .i64 x] 3)) (.slice (some ⟨w.heap.size, 0, none⟩) 1 1) [x] := by
  have hk := Blk.new w #[.int .i64 x] 3
  have := IRow.mk (k := .i64) (w := w.alloc (.cells #[.int .i64 x] 3)) (b := w.heap.size) (off := 0) (cap := 1) (xs := [x]) (by simp) (by unfold maxLen; omega) (fun i hi => by
    match i, hi with
    | 0, _ => exact hk.cell 0) (fun n hn => by simp at hn; subst hn; exact hx)
  exact this
theorem recs_len7 {bs : List (List Int)} (h : ∀ b ∈ bs, b.length ≤ 200) : (recs bs).length ≤ 207 * bs.length := by
  induction bs with
  | nil => simp [recs]
  | cons b t ih =>
    have h1 := ih (fun c hc => h c (by simp [hc]))
    have h2 := h b (by simp)
    rw [recs_cons, List.length_append, recB_length, List.length_cons]
    omega
/-- The ends. -/
def eL (B : List (List Int)) (k : Nat) : List Int := (List.range k).map (fun i => (fE B (i + 1) : Int))
theorem eL_length (B : List (List Int)) (k : Nat) : (eL B k).length = k := by simp [eL]
theorem eL_succ (B : List (List Int)) (k : Nat) : eL B (k + 1) = eL B k ++ [(fE B (k + 1) : Int)] := by simp [eL, List.range_succ]
theorem eL_at {B : List (List Int)} {k i : Nat} (h : i < k) : (eL B k).getD i 0 = (fE B (i + 1) : Int) := by simp [eL, List.getD, h]
theorem fE_take {xl : List (List Int)} {M i : Nat} (h : i ≤ M) : fE (xl.take M) i = fE xl i := by
  unfold fE
  rw [List.take_take, Nat.min_eq_left h]
theorem ty_ne7 : (3 : TypeId) ≠ 5 := by decide
theorem IOwn.besides7 {base base' : Nat} {w w' : World} {v u : Value} {xs ys : List Int} (h : IOwn .i64 3 base w v xs) (ho : Own base' w u ys) (hg : w.grownBy w' u.ownBlock) : IOwn .i64 3 base w' v xs := ⟨owns_besides ty_ne7 h.1 ho.1 hg, h.2⟩
theorem Own.besides7 {base base' : Nat} {w w' : World} {v u : Value} {xs ys : List Int} (h : Own base w v xs) (ho : IOwn .i64 3 base' w u ys) (hg : w.grownBy w' u.ownBlock) : Own base w' v xs := ⟨owns_besides (Ne.symm ty_ne7) h.1 ho.1 hg, h.2⟩

/-- 'b[:k]'. -/
theorem Row.upto {w : World} {v : Value} {xs : List Int} (h : Row w v xs) (k : Nat) (hk : k ≤ xs.length) :
    ∃ v', (∀ w', (Instr.sliceAt 22 v none (some (.int .i64 k)) none).run Try.prog w' = .ok v' w') ∧ Row w v' (xs.take k) := by
  obtain ⟨ao, cap, rfl, hc, hr⟩ := h.sub 0 k (Nat.zero_le _) hk
  refine ⟨_, fun w' => ?_, by simpa using hr⟩
  rw [run_sliceAt_slice _ _ _ _ _ _ sliceTy, run_slice_h _ _ _ _ _ sliceTy .i64 k (by omega) (by omega), sizeByte]
  simp [Result.andThen]
theorem xor_seen7 (x y : Int) (hx : 0 ≤ x ∧ x < 256) (hy : 0 ≤ y ∧ y < 256) : (0 ≤ bits .xor .u8 x y ∧ bits .xor .u8 x y < 256) ∧ (bits .xor .u8 x y = x → y = 0) := by
  rw [u8_xor x y hx.1 hx.2 hy.1 hy.2]
  obtain ⟨X, rfl⟩ := Int.eq_ofNat_of_zero_le hx.1
  obtain ⟨Y, rfl⟩ := Int.eq_ofNat_of_zero_le hy.1
  have hlt : X ^^^ Y < 2 ^ 8 := Nat.xor_lt_two_pow (by omega) (by omega)
  simp only [Int.toNat_natCast]
  refine ⟨by omega, ?_⟩
  intro h
  have h1 : X ^^^ Y = X := by omega
  have h2 : X ^^^ (X ^^^ Y) = 0 := by rw [h1, Nat.xor_self]
  rw [← Nat.xor_assoc, Nat.xor_self, Nat.zero_xor] at h2
  omega

set_option maxHeartbeats 4000000 in
theorem FrameTorn_walk (lv : Value) (xl : List (List Int)) (cut pat sub blank : Int) (w : World) (w0 : VRow w lv xl) (w1 : (Lit.int .i64 cut).wf = true) (w2 : (Lit.int .i64 pat).wf = true) (w3 : (Lit.int .u8 sub).wf = true) (w4 : (Lit.int .i64 blank).wf = true) :
    Calls Try.prog 4 #[lv, .int .i64 cut, .int .i64 pat, .int .u8 sub, .int .i64 blank] w fun e w' => e = .returned (.bool true) ∧ Below w.heap.size w w' := by
  have hj := wf_u8 w3
  have hlena := w0.lenRun
  have HA := hide w0
  have HBY := hide w0.bys
  clear w0
  go_enter Try.func4, Try.ntmps4
  go_wp2
  go_loopw [11, 12, 13] (fun x d i wr => ∃ k : Nat, k ≤ min xl.length 10 ∧ i = .int .i64 k ∧ Own w.heap.size wr x (recs (xl.take k)) ∧ IOwn .i64 3 w.heap.size wr d (eL xl k) ∧ (∀ b ∈ xl.take k, b.length ≤ 200) ∧ Below w.heap.size w wr) (fun _ _ i _ => 10 - (intOf i).toNat)
  case atStart => exact ⟨0, Nat.zero_le _, rfl, by simpa [recs] using Own.nil _ _, by simpa [eL] using IOwn.nil _ _ _ _, by simp, Below.refl _ _⟩
  case round =>
    obtain ⟨k, hk, rfl, ho, hd, hl, hb⟩ := hrel
    have HO := hide ho
    have HD := hide hd
    have HL := hide hl
    clear ho hl hd
    go_upto_region 4 with fail
    go_cut [36] (fun c wx => c = .bool (decide (k < min xl.length 10)) ∧ wx = wr)
    case first =>
      by_cases h1 : k < xl.length
      · have h1' : (k : Int) < xl.length := by omega
        by_cases h2 : k < 10
        · have h2' : (k : Int) < 10 := by omega
          go_wp2
          go_meet
          exact ⟨congrArg Value.bool (decide_eq_true (by omega)).symm, rfl⟩
        · have h2' : ¬ (k : Int) < 10 := by omega
          go_wp2
          go_meet
          exact ⟨congrArg Value.bool (decide_eq_false (by omega)).symm, rfl⟩
      · have h1' : ¬ (k : Int) < xl.length := by omega
        go_wp2
        go_meet
        exact ⟨congrArg Value.bool (decide_eq_false (by omega)).symm, rfl⟩
    case rest =>
      obtain ⟨hc, rfl⟩ := hcut
      by_cases hlt : k < min xl.length 10
      · rw [decide_eq_true hlt] at hc
        subst hc
        obtain ⟨p, u, hix, hcp, hru⟩ := (HA.out.below hb).idx k (by omega)
        obtain ⟨y, hy⟩ : ∃ y, xl.getD k [] = y := ⟨_, rfl⟩
        rw [hy] at hru
        have HY := hide hy
        obtain ⟨ua, uc, rfl⟩ := hru.of_len
        have HU := hide hru
        clear hru hy
        by_cases h150 : 200 < y.length
        · have h150' : (200 : Int) < y.length := by omega
          go_wp2_with fail
          refine (awake_any _).mono ?_
          rintro e w5 ⟨rfl, hb5⟩
          go_wp2
          go_ret
          exact ⟨rfl, hb.trans (hb5.mono hb.size)⟩
        · have h150' : (y.length : Int) ≤ 200 := by omega
          have HX := hide (show (recs (xl.take k)).length ≤ 207 * 10 by
            have := recs_len7 HL.out
            rw [List.length_take] at this
            omega)
          go_wp2_with fail
          refine (record_any wc _ y HU.out (by omega)).mono ?_
          rintro e w5 ⟨v5, rfl, ho5, hb5⟩
          have hB5 : Below w.heap.size w w5 := hb.trans (hb5.mono hb.size)
          have HO5 := hide (HO.out.kept hb5)
          have HD5 := hide (HD.out.kept hb5)
          go_wp2_with (at_builtin; refine wpList_append_row rfl _ _ rfl w.heap.size _ _ (recs (xl.take k)) (recB y) rfl HO5.out rfl ho5.row (by rw [recB_length]; have := HX.out; omega) hB5.size ?_)
          intro v6 w6 ho6 hg6
          have hB6 : Below w.heap.size w w6 := HO5.out.grown_below hB5 hg6 (Nat.le_refl _) hB5.size
          have HT := hide (show xl.take (k + 1) = xl.take k ++ [y] by rw [take_more7 (by omega), HY.out])
          have ho6' : Own w.heap.size w6 v6 (recs (xl.take (k + 1))) := by rw [HT.out, recs_snoc]; exact ho6
          have HO6 := hide ho6'
          have HL6 := hide (show ∀ b ∈ xl.take (k + 1), b.length ≤ 200 by
            rw [HT.out]
            intro b hb
            rcases List.mem_append.1 hb with h' | h'
            · exact HL.out b h'
            · simp at h'; subst h'; omega)
          have HD6 := hide (HD5.out.besides7 HO5.out hg6)
          have hl6 := ho6'.row.lenRun
          have hfe : ((recs (xl.take (k + 1))).length : Int) = (fE xl (k + 1) : Int) := rfl
          rw [hfe] at hl6
          have hfb : fE xl (k + 1) ≤ 207 * 10 := by
            have := recs_len7 HL6.out
            rw [List.length_take] at this
            have e : fE xl (k + 1) = (recs (xl.take (k + 1))).length := rfl
            omega
          have hfb' : (fE xl (k + 1) : Int) ≤ 2070 := by omega
          have HFE := hide (eL_succ xl k)
          generalize fE xl (k + 1) = fe at *
          have hB7 : Below w.heap.size w (w6.alloc (.cells #[.int .i64 (fe : Int)] 3)) := hB6.alloc hB6.size _
          have HEL := hide (eL_length xl k)
          have hk10 : k < 10 := by omega
          have HK10 := hide hk10
          clear ho6 ho6' hg6 ho5 hb5 hfe HO5 HD5 HX hB5
          go_wp2_with (at_builtin; refine wpList_append_ints rfl _ _ 36 3 .i64 8 Try.underlying36 infoInt7 rfl w.heap.size _ _ (eL xl k) [(fe : Int)] rfl (HD6.out.alloc _) rfl (irow_one7 w6 _ (wf_i64 (by omega) (by omega))) (by rw [HEL.out]; have := HK10.out; simp; omega) (by rw [HEL.out]; have := HK10.out; unfold maxLen; simp; omega) hB7.size ?_)
          intro v8 w8 hd8 hg8
          have hB8 : Below w.heap.size w w8 := hB7.grown hg8 hB7.size (fun j e => (HD6.out.block j e).1)
          have HO8 := hide ((HO6.out.alloc _).besides7 (HD6.out.alloc _) hg8)
          have HD8 := hide (show IOwn .i64 3 w.heap.size w8 v8 (eL xl (k + 1)) by rw [HFE.out]; exact hd8)
          clear hd8 hg8 HO6 HD6 hB7 HFE
          go_wp2
          exact ⟨⟨k + 1, by omega, by go_num, HO8.out, HD8.out, HL6.out, hB8⟩, by simp [intOf]; omega⟩
      · rw [decide_eq_false hlt] at hc
        subst hc
        have hkm : k = min xl.length 10 := by omega
        obtain ⟨B, hB⟩ : ∃ B, xl.take k = B := ⟨_, rfl⟩
        have HFE := hide (show ∀ i, i ≤ k → fE B i = fE xl i from fun i hi => hB ▸ fE_take hi)
        have HTK := hide (show ∀ i, i ≤ k → B.take i = xl.take i from fun i hi => by rw [← hB, List.take_take, Nat.min_eq_left hi])
        rw [hB] at HO HL
        have HBL := hide (show B.length = k by rw [← hB, List.length_take]; omega)
        have HBX := hide (show ∀ b ∈ B, b.length ≤ 65000 from fun b hb => Nat.le_trans (HL.out b hb) (by omega))
        have HBB := hide (show ∀ b ∈ B, Bys b from fun b hb => HBY.out b (by rw [← hB] at hb; exact List.mem_of_mem_take hb))
        have hlall := HO.out.row.lenRun
        obtain ⟨T, hT⟩ : ∃ T, (recs B).length = T := ⟨_, rfl⟩
        have hT2 : T ≤ 2070 := by
          have h1 := recs_len7 HL.out
          have h2 := HBL.out
          omega
        have HTk := hide (show fE B k = T by rw [← HBL.out, fE_all, hT])
        rw [hT] at hlall
        have HTE := hide hT
        have hT' : (T : Int) ≤ 2070 := by omega
        have hkl : k ≤ xl.length := by omega
        clear hB hT hlt hkm HBY HL
        by_cases hT0 : T = 0
        · subst hT0
          go_wp2_with fail
          refine (awake_any _).mono ?_
          rintro e w5 ⟨rfl, hb5⟩
          go_wp2_with fail
          refine (awake_any _).mono ?_
          rintro e w6 ⟨rfl, hb6⟩
          go_wp2
          go_ret
          exact ⟨rfl, (hb.trans (hb5.mono hb.size)).trans (hb6.mono (Nat.le_trans hb.size hb5.size))⟩
        · have hT0' : ¬ (T : Int) = 0 := by omega
          have hT1 : (0 : Int) < T := by omega
          have hTb : ((T : Int) == 0) = false := by simpa using hT0
          obtain ⟨c, hc, ec⟩ := cut_big cut (T + 1) (by omega) (by omega)
          obtain ⟨a, ha, ea⟩ := cut_big pat T (by omega) (by omega)
          rw [show ((T + 1 : Nat) : Int) = (T : Int) + 1 from by omega] at ec
          have hw1 : IntKind.u64.wrap ((T : Int) + 1) = (T : Int) + 1 := by rw [IntKind.wrap_u64]; omega
          have hw2 : IntKind.u64.wrap (T : Int) = (T : Int) := by rw [IntKind.wrap_u64]; omega
          have HC := hide hc
          have HPA := hide ha
          go_wp2_with fail
          refine (awake_any _).mono ?_
          rintro e w5 ⟨rfl, hb5⟩
          have hB5 : Below w.heap.size w w5 := hb.trans (hb5.mono hb.size)
          have HO5 := hide (HO.out.kept hb5)
          have HD5 := hide (HD.out.kept hb5)
          clear hb5 HO HD hb
          go_wp2_with fail
          go_region
          rw [ec, ea]
          have HO6 := hide (HO5.out.kept (Below.refl _ _).drew)
          have HD6 := hide (HD5.out.kept (Below.refl _ _).drew)
          have hB6 : Below w.heap.size w w5.drew := hB5.drew
          generalize w5.drew = w6 at *
          have hk0 : 0 < k := by
            rcases Nat.eq_zero_or_pos k with h0 | h0
            · exfalso
              have h1 := HTk.out
              rw [h0, fE_zero] at h1
              omega
            · exact h0
          obtain ⟨db, dof, dcap, hdv, hdb, hdc⟩ := HD6.out.row.at (by rw [eL_length]; exact hk0)
          rw [eL_length] at hdv hdc
          subst hdv
          have HDC := hide (show ∀ i, i < k → w6.cell? ⟨db, dof + i, none⟩ = some (.int .i64 (fE xl (i + 1) : Int)) from fun i hi => by rw [hdc i hi, eL_at hi])
          have HFL := hide (show ∀ i, i ≤ k → fE xl i ≤ 2070 from fun i hi => by rw [← HFE.out i hi]; exact Nat.le_trans (fE_le B i) (by rw [HTE.out]; omega))
          clear hdc HO5 HD5 hB5 ec ea hw1 hw2
          go_wp2
          go_loopw [14, 15, 16, 17, 18] (fun s14 s15 s16 s17 s18 wr => ∃ i W S : Nat, i ≤ k ∧ s18 = .int .i64 i ∧ s14 = .int .i64 W ∧ s15 = .int .i64 (fE xl W : Int) ∧ s16 = .int .i64 S ∧ s17 = .int .i64 (fE xl S : Int) ∧ Last B i c W ∧ Last B i a S ∧ Still w6 wr) (fun _ _ _ _ s18 _ => k - (intOf s18).toNat)
          case atStart => exact ⟨0, 0, 0, Nat.zero_le _, rfl, rfl, by rw [fE_zero]; rfl, rfl, by rw [fE_zero]; rfl, Last.zero _ _, Last.zero _ _, Still.refl _⟩
          case round =>
            obtain ⟨i, W, S, hi, rfl, rfl, rfl, rfl, rfl, hW, hS, hst⟩ := hrel
            have HW := hide hW
            have HS := hide hS
            clear hW hS
            by_cases hlt2 : i < k
            · have hlt2' : (i : Int) < k := by omega
              have hce : wr.cell? ⟨db, dof + i, none⟩ = some (.int .i64 (fE xl (i + 1) : Int)) := (hst.cell _).trans (HDC.out i hlt2)
              have HCE := hide hce
              have HFI := hide (HFE.out (i + 1) (by omega))
              have hfb : (fE xl (i + 1) : Int) ≤ 2070 := by have := HFL.out (i + 1) (by omega); omega
              obtain ⟨fe, hfe⟩ : ∃ z, fE xl (i + 1) = z := ⟨_, rfl⟩
              rw [hfe] at hce hfb
              have HFEE := hide hfe
              clear hfe HCE
              by_cases hc1 : fe ≤ c
              · have hc1' : (fe : Int) ≤ c := by omega
                by_cases ha1 : fe ≤ a
                · have ha1' : (fe : Int) ≤ a := by omega
                  go_wp2_with fail
                  go_region
                  have hce2 : wr.drew.cell? ⟨db, dof + i, none⟩ = some (.int .i64 (fe : Int)) := hce
                  go_wp2_with fail
                  go_region
                  go_wp2
                  go_roundw
                  case rel => exact ⟨i + 1, i + 1, i + 1, by omega, by go_num, by go_num, by rw [HFEE.out], by go_num, by rw [HFEE.out], HW.out.yes (by rw [HFI.out, HFEE.out]; exact hc1), HS.out.yes (by rw [HFI.out, HFEE.out]; exact ha1), hst.drew.drew⟩
                  case measure => simp [intOf]; omega
                · have ha1' : ¬ (fe : Int) ≤ a := by omega
                  go_wp2_with fail
                  go_region
                  have hce2 : wr.drew.cell? ⟨db, dof + i, none⟩ = some (.int .i64 (fe : Int)) := hce
                  go_wp2
                  go_roundw
                  case rel => exact ⟨i + 1, i + 1, S, by omega, by go_num, by go_num, by rw [HFEE.out], rfl, rfl, HW.out.yes (by rw [HFI.out, HFEE.out]; exact hc1), HS.out.no (by rw [HFI.out, HFEE.out]; exact ha1), hst.drew⟩
                  case measure => simp [intOf]; omega
              · have hc1' : ¬ (fe : Int) ≤ c := by omega
                by_cases ha1 : fe ≤ a
                · have ha1' : (fe : Int) ≤ a := by omega
                  go_wp2_with fail
                  go_region
                  go_wp2
                  go_roundw
                  case rel => exact ⟨i + 1, W, i + 1, by omega, by go_num, rfl, rfl, by go_num, by rw [HFEE.out], HW.out.no (by rw [HFI.out, HFEE.out]; exact hc1), HS.out.yes (by rw [HFI.out, HFEE.out]; exact ha1), hst.drew⟩
                  case measure => simp [intOf]; omega
                · have ha1' : ¬ (fe : Int) ≤ a := by omega
                  go_wp2
                  go_roundw
                  case rel => exact ⟨i + 1, W, S, by omega, by go_num, rfl, rfl, rfl, rfl, HW.out.no (by rw [HFI.out, HFEE.out]; exact hc1), HS.out.no (by rw [HFI.out, HFEE.out]; exact ha1), hst⟩
                  case measure => simp [intOf]; omega
            · obtain rfl : i = k := by omega
              have HO7 := hide (HO6.out.kept (hst _))
              have hB7 : Below w.heap.size w wr := hB6.trans (hst _)
              have hWk := HW.out.1
              have hSk := HS.out.1
              have HLW := hide (show Last B B.length c W by rw [HBL.out]; exact HW.out)
              have HLS := hide (show Last B B.length a S by rw [HBL.out]; exact HS.out)
              have hfw := HFE.out W hWk
              have hfs := HFE.out S hSk
              have hTW := HTK.out W hWk
              have hTS := HTK.out S hSk
              have hwc : fE xl W ≤ c := by have := HW.out.2.1; omega
              have hsa : fE xl S ≤ a := by have := HS.out.2.1; omega
              have hac : (a : Int) ≤ 2070 := by omega
              have hcc : (c : Int) ≤ 2070 := by omega
              obtain ⟨xv, hsx, hrx⟩ := HO7.out.row.upto c (by rw [HTE.out]; omega)
              obtain ⟨z, hz, ez⟩ := cut_n blank 50 (by omega) (by omega)
              rw [show ((50 : Nat) : Int) = 50 from rfl] at ez
              have hft := found_torn HBX.out (c := c) (W := W) (by rw [HTE.out]; omega) HLW.out z
              have HFT := hide hft
              have HRX := hide hrx
              have HXL := hide (show ((recs B).take c).length ≤ 2070 by rw [List.length_take, HTE.out]; omega)
              have hz' : (z : Int) < 50 := by omega
              have HZ := hide hz
              have HHO := HO7
              clear hft hrx HW HS HO6 hB6 HDC HFL hdb hz hst hlena
              generalize wr = w7 at *
              go_wp2_with (at_builtin; refine wpList_append_row rfl _ _ rfl w7.heap.size _ _ [] ((recs B).take c) rfl (Own.nil _ _) rfl HRX.out (by have := HXL.out; simp only [List.length_nil]; omega) (Nat.le_refl _) ?_)
              intro v8 w8 ho8 hg8
              have hb8 : Below w7.heap.size w7 w8 := grown_below hg8
              try rw [List.nil_append] at ho8
              go_wp2
              go_loopw [19, 20] (fun x i wr => ∃ j : Nat, j ≤ z ∧ i = .int .i64 j ∧ Own w7.heap.size wr x ((recs B).take c ++ List.replicate j 255) ∧ Below w7.heap.size w7 wr) (fun _ i _ => 50 - (intOf i).toNat)
              case atStart => exact ⟨0, Nat.zero_le _, rfl, by simpa using ho8, hb8⟩
              case round =>
                obtain ⟨j, hj2, rfl, hoj, hbj⟩ := hrel
                have HJL := hide (show ((recs B).take c ++ List.replicate j (255 : Int)).length ≤ 2070 + j by rw [List.length_append, List.length_replicate]; have := HXL.out; omega)
                have HOJ := hide hoj
                clear hoj
                by_cases hlt3 : j < z
                · have hlt3' : (j : Int) < z := by omega
                  have hb9 : Below w7.heap.size w7 (wr.alloc (.cells #[.int .u8 255] 5)) := hbj.alloc hbj.size _
                  go_wp2_with (at_builtin; refine wpList_append_row rfl _ _ rfl w7.heap.size _ _ ((recs B).take c ++ List.replicate j 255) [255] rfl (HOJ.out.alloc _) rfl (row_new1 _ _ (by omega)) (by have := HJL.out; simp only [List.length_cons, List.length_nil]; omega) hb9.size ?_)
                  intro v9 w9 ho9 hg9
                  have hb10 : Below w7.heap.size w7 w9 := (HOJ.out.alloc _).grown_below hb9 hg9 (Nat.le_refl _) hb9.size
                  have HO9 := hide (show Own w7.heap.size w9 v9 ((recs B).take c ++ List.replicate (j + 1) 255) by rw [List.replicate_succ']; first | exact ho9 | (rw [← List.append_assoc]; exact ho9))
                  clear ho9 hg9 hb9
                  go_wp2
                  go_roundw
                  case rel => exact ⟨j + 1, by omega, by go_num, HO9.out, hb10⟩
                  case measure => simp [intOf]; omega
                · obtain rfl : j = z := by omega
                  have HO7w := hide (HHO.out.kept hbj)
                  have hBj : Below w.heap.size w wr := hB7.trans (hbj.mono hB7.size)
                  generalize wr = w9 at *
                  go_wp2_with fail
                  refine (Scan_known HOJ.out.row (by have := HJL.out; omega) HFT.out.1).mono ?_
                  rintro e w10 ⟨p, us, rfl, hv10, hw10, hb10⟩
                  have HP := hide (show VRow w10 p (B.take W) from ⟨us, hv10.vals, hw10.rows⟩)
                  obtain ⟨cl, hcl⟩ : ∃ z, clean (((recs B).take c ++ List.replicate j 255).drop (fE B W)) = z := ⟨_, rfl⟩
                  rw [hcl]
                  have hclc : fE xl W = c → cl = true := by
                    intro e
                    rw [← hcl]
                    exact HFT.out.2 (by rw [hfw]; exact e)
                  have HCL := hide hclc
                  rw [hfw]
                  have HO10 := hide (HO7w.out.kept hb10)
                  have hB10 : Below w.heap.size w w10 := hBj.trans (hb10.mono hBj.size)
                  clear hv10 hw10 hb10 HOJ HO7w hBj hcl hclc HFT HHO hbj
                  go_wp2_with (at_builtin; refine wpList_append_row rfl _ _ rfl w10.heap.size _ _ [] (recs B) rfl (Own.nil _ _) rfl HO10.out.row (by rw [HTE.out]; simp only [List.length_nil]; omega) (Nat.le_refl _) ?_)
                  intro v11 w11 ho11 hg11
                  have hb11 : Below w10.heap.size w10 w11 := grown_below hg11
                  try rw [List.nil_append] at ho11
                  obtain ⟨g, gcap, rfl, hg0, hg1, hgc⟩ := ho11.form (by rw [HTE.out]; omega)
                  rw [HTE.out] at ho11 hgc ⊢
                  have hca := ho11.cellAt HTE.out a HPA.out
                  have hfa := ho11.frozenAt HTE.out a
                  obtain ⟨q, hq⟩ : ∃ q, (recs B).getD a 0 = q := ⟨_, rfl⟩
                  rw [hq] at hca
                  have hqr : 0 ≤ q ∧ q < 256 := hq ▸ (recs_bys HBB.out).at a
                  obtain ⟨hyr, hyi⟩ := xor_seen7 q sub hqr hj
                  obtain ⟨y, hy⟩ : ∃ z, bits .xor .u8 q sub = z := ⟨_, rfl⟩
                  rw [hy] at hyr hyi
                  have HOY := hide (ho11.stored HTE.out a y hyr)
                  have hB11 : Below w10.heap.size w10 (w11.setCell ⟨g, a, none⟩ (.int .u8 y)) := hb11.setCell hg0 _
                  have HQ := hide hq
                  have HYI := hide hyi
                  have hgcap : (T : Int) ≤ gcap := by omega
                  have haT : (a : Int) < T := by have := HPA.out; omega
                  clear ho11 hg11 hb11 hyi hq
                  go_wp2_with fail
                  generalize w11.setCell ⟨g, a, none⟩ (.int .u8 y) = w12 at *
                  refine (Scan_any w12 _ _ HOY.out.row (by rw [List.length_set, HTE.out]; omega)).mono ?_
                  rintro e w13 ⟨l2, us2, bss, m, rfl, hv13, hw13, hs13, hb13⟩
                  have HL2 := hide (show VRow w13 l2 bss from ⟨us2, hv13.vals, hw13.rows⟩)
                  have HS13 := hide hs13
                  have hb1013 : Below w10.heap.size w10 w13 := hB11.trans (hb13.mono hB11.size)
                  have HP13 := hide (HP.out.below hb1013)
                  have hB13 : Below w.heap.size w w13 := hB10.trans (hb1013.mono hB10.size)
                  obtain ⟨lw, hlw, hrw⟩ := (HA.out.below hB13).cutRun W (by omega)
                  obtain ⟨ls, hls, hrs⟩ := (HA.out.below hB13).cutRun S (by omega)
                  rw [← hTW] at hrw
                  rw [← hTS] at hrs
                  have HRW := hide hrw
                  have HRS := hide hrs
                  generalize clean (((recs B).set a y).drop m) = cl2
                  clear hv13 hw13 hs13 hb13 hb1013 HOY HP hB11 hB10 hrw hrs hTW hTS hca hfa
                  go_upto_region 30 with fail
                  go_cut [28] (fun s28 wx => s28 = .bool true ∧ Still w13 wx)
                  case first =>
                    by_cases h0 : sub = 0
                    · subst h0
                      go_wp2
                      go_meet
                      exact ⟨rfl, Still.refl _⟩
                    · have hs0 : (sub == 0) = false := beq_eq_false_iff_ne.2 h0
                      have hfr0 : (fE xl S : Int) ≤ a := by omega
                      by_cases h2 : (a : Int) - (fE xl S : Int) < 2
                      · generalize fE xl S = fS at *
                        go_wp2
                        go_meet
                        exact ⟨rfl, Still.refl _⟩
                      · have hfo := found_spoilt HBX.out HBB.out (a := a) (S := S) (by rw [HTE.out]; exact HPA.out) HLS.out (by omega) y hyr (by rw [HQ.out]; exact fun e => h0 (HYI.out e))
                        obtain ⟨e1, e2⟩ := HS13.out.found.uniq hfo
                        rw [hfs] at e2
                        subst e1 e2
                        generalize fE xl S = fS at *
                        clear hfo
                        go_wp2_with fail
                        refine (Same2_any w13 l2 ls _ _ HL2.out HRS.out).mono ?_
                        rintro e w14 ⟨rfl, hst14⟩
                        simp only [decide_true]
                        go_wp2
                        go_meet
                        exact ⟨rfl, hst14⟩
                  case rest =>
                    obtain ⟨rfl, hst14⟩ := hcut
                    have hB14 : Below w.heap.size w wc := hB13.trans (hst14 _)
                    have HP14 := hide (hst14.vrow HP13.out)
                    have HW14 := hide (hst14.vrow HRW.out)
                    clear HP13 HRW HRS HL2
                    go_wp2_with fail
                    refine (Same2_any wc p lw _ _ HP14.out HW14.out).mono ?_
                    rintro e w15 ⟨rfl, hst15⟩
                    simp only [decide_true]
                    have hB15 : Below w.heap.size w w15 := hB14.trans (hst15 _)
                    by_cases hwl : fE xl W < c
                    · have hwl' : (fE xl W : Int) < c := by omega
                      generalize fE xl W = fW at *
                      go_wp2
                      go_ret
                      exact ⟨rfl, hB15⟩
                    · have hwl' : ¬ (fE xl W : Int) < c := by omega
                      have hct : cl = true := HCL.out (by omega)
                      subst hct
                      generalize fE xl W = fW at *
                      go_wp2
                      go_ret
                      exact ⟨rfl, hB15⟩
end Go.Proofs.Ytnaklimfbddaaaa
