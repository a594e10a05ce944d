/-
  The walk of garretlaw05.NandStays.
-/
import Derived.Test.YtkfegoelfbjnoaaStaysQ5
import Derived.BigQuiet
import Derived.Deep.QuietTactic
namespace Go.Proofs.Ytkfegoelfbjnoaa
open Go.RowKit
set_option linter.unusedVariables false
set_option maxRecDepth 100000

set_option maxHeartbeats 8000000 in
theorem NandStays_walk (ga gb gc gd ge : Int) (lv : Value) (l : List RB) (block : Int) (w : World) (w0 : GeoOk ga gb gc gd ge) (hs : Seq w 1 RB.cells lv l) (hl : ∀ o ∈ l, IRow .u8 w o.v o.xs) (hbw : (Lit.int .i64 block).wf = true) :
    Calls Try.prog 4 #[.agg (gcells ga gb gc gd ge), lv, .int .i64 block] w fun e w' => e = .returned (.bool true) ∧ Below w.heap.size w w' := by
  have hlm := hs.len
  unfold maxLen at hlm
  obtain ⟨ao, cap, hv⟩ := hs.of_len
  subst hv
  generalize hL0 : l.length = len at *
  have HS := hide hs
  have HL0 := hide hL0
  have HOK := hide hl
  clear hs hL0 hl
  have hplay := fun w => playN_any w ga gb gc gd ge
  have hB0 : Below w.heap.size w (w.alloc (.cells (gcells ga gb gc gd ge) 23)) := (Below.refl _ _).alloc (Nat.le_refl _) _
  have hG0 : Blk (w.alloc (.cells (gcells ga gb gc gd ge) 23)) w.heap.size (gcells ga gb gc gd ge) 23 := Blk.new w _ _
  unfold gcells at hplay hB0 hG0 ⊢
  go_enter Try.func4, Try.ntmps4
  go_wp2_with fail
  generalize hW1 : w.alloc (.cells #[.int .i64 ga, .int .i64 gb, .int .i64 gc, .int .i64 gd, .int .i64 ge] 23) = W1 at *
  clear hW1
  refine (hplay _).mono ?_
  rintro e W2 ⟨A, B, C, D, E, rfl, hr, hq, hb2⟩
  have HQ := hide hq
  clear hq
  have hs1 := hG0.lt
  have hB2 := hB0.trans (hb2.mono (by omega))
  have hG2 := hG0.below hb2 hG0.lt
  clear hb2 hB0 hG0 hplay
  have c0 := hG2.cell 0
  have c1 := hG2.cell 1
  have c2 := hG2.cell 2
  have c3 := hG2.cell 3
  have c4 := hG2.cell 4
  have f0 := hG2.frozen 0
  have f1 := hG2.frozen 1
  have f2 := hG2.frozen 2
  have f3 := hG2.frozen 3
  have f4 := hG2.frozen 4
  simp at c0 c1 c2 c3 c4
  have hG3 := ((((hG2.set 0 (.int .i64 (A : Int))).set 1 (.int .i64 (B : Int))).set 2 (.int .i64 (C : Int))).set 3 (.int .i64 (D : Int))).set 4 (.int .i64 (E : Int))
  have hB3 : Below w.heap.size w (((((W2.setCell ⟨w.heap.size, 0, none⟩ (.int .i64 (A : Int))).setCell ⟨w.heap.size, 1, none⟩ (.int .i64 (B : Int))).setCell ⟨w.heap.size, 2, none⟩ (.int .i64 (C : Int))).setCell ⟨w.heap.size, 3, none⟩ (.int .i64 (D : Int))).setCell ⟨w.heap.size, 4, none⟩ (.int .i64 (E : Int))) := ((((hB2.setCell (Nat.le_refl _) _).setCell (Nat.le_refl _) _).setCell (Nat.le_refl _) _).setCell (Nat.le_refl _) _).setCell (Nat.le_refl _) _
  go_wp2_with fail
  generalize hW3 : ((((W2.setCell ⟨w.heap.size, 0, none⟩ (.int .i64 (A : Int))).setCell ⟨w.heap.size, 1, none⟩ (.int .i64 (B : Int))).setCell ⟨w.heap.size, 2, none⟩ (.int .i64 (C : Int))).setCell ⟨w.heap.size, 3, none⟩ (.int .i64 (D : Int))).setCell ⟨w.heap.size, 4, none⟩ (.int .i64 (E : Int)) = W3 at *
  clear hW3 c0 c1 c2 c3 c4 f0 f1 f2 f3 f4 hG2 hB2
  have hgl : w.heap.size < W3.heap.size := hG3.lt
  have hG3' : Blk W3 w.heap.size (gcells A B C D E) 23 := hG3
  have hH3 := holdD_of hG3' (Below.refl _ _)
  have hnn := fun (w : World) po => NewNand_right w A B C D E po (wf_of_right hr) hr
  unfold gcells at hnn
  generalize hgs : w.heap.size = gs at *
  go_region_held3 (fun w' => (w'.cell? ⟨gs, 0, none⟩ = some (.int .i64 (A : Int)) ∧ w'.cell? ⟨gs, 1, none⟩ = some (.int .i64 (B : Int)) ∧ w'.cell? ⟨gs, 2, none⟩ = some (.int .i64 (C : Int)) ∧ w'.cell? ⟨gs, 3, none⟩ = some (.int .i64 (D : Int)) ∧ w'.cell? ⟨gs, 4, none⟩ = some (.int .i64 (E : Int))) ∧ (Blk w' gs (gcells A B C D E) 23 ∧ Below W3.heap.size W3 w'))
    (first
      | assumption
      | exact holdD_below hb41 (by assumption)
      | exact holdD_below hm42.below (by assumption)
      | exact holdD_drew (by assumption))
    (first
      | (go_at_call 9; refine (NewB_any _).mono ?_; rintro e w41 ⟨rfl, hb41, hw41⟩)
      | (go_at_call 11; refine (hnn _ _).mono ?_; rintro e w42 ⟨k, mb, nb, eb, rfl, hm42⟩))
  have hK := hm42.kept (w0 := W3) (w1 := W3.drew) (Below.refl _ _).drew hw41.out hr
  have ok := DSt.new_ok hr 0
  have hlay := laid_new (A := A) (B := B) (C := C) (D := D) (E := E) (l.map RB.xs)
  have hNC : (DSt.new A B C D E).C = C ∧ (DSt.new A B C D E).D = D ∧ (DSt.new A B C D E).E = E := ⟨rfl, rfl, rfl⟩
  have hmb : mb < w42.heap.size := hm42.map.lt
  have hu := rightS_of hr
  clear hm42 hw41 hb41 hnn hH3 hr hG3
  generalize hL : (⟨k, W3.drew.heap.size, none, mb, nb, eb⟩ : DLay) = L at *
  obtain rfl : k = L.c := by rw [← hL]
  obtain rfl : mb = L.mb := by rw [← hL]
  have hmo : L.mo = none := by rw [← hL]
  clear hL
  generalize hbase : w42.heap.size = base at *
  generalize DSt.new A B C D E = N at *
  obtain ⟨rfl, rfl, rfl⟩ := hNC
  have hC0 := ok.C0
  have hD0 := ok.D0
  have hE0 := ok.E0
  have hE1 := ok.E1
  have hlt := hK.dev.chip.lt
  have hWb := hK.wb
  go_wp2_with fail
  refine (awake5_any w42).mono ?_
  rintro e w5 ⟨rfl, hb5⟩
  have hK5 := hK.below' hb5
  have hG5 := hG3'.below hK5.below (by omega)
  have c2 := hG5.cell 2
  have c3 := hG5.cell 3
  simp [gcells] at c2 c3
  have hcd : (N.C : Int) * (N.D : Int) = ((N.C * N.D : Nat) : Int) := by simp
  have hcdb : N.C * N.D ≤ 48 := Nat.mul_le_mul HQ.out.1 HQ.out.2.1
  obtain ⟨n, hn⟩ : ∃ n, n = min len (N.C * N.D) := ⟨_, rfl⟩
  have hmin : (if N.C * N.D < len then ((N.C * N.D : Nat) : Int) else (len : Int)) = n := by split <;> omega
  have HN : Hid (n ≤ len ∧ n ≤ N.C * N.D ∧ n ≤ 48) := by rw [hn]; exact ⟨by omega, by omega, by omega⟩
  have hlay0 : ∃ N' us, Laid N' (l.map RB.xs) 0 ∧ N.Like N' ∧ N'.Ok 0 ∧ KeptD W3 base w5 L (pz 0) N' 0 ∧ VOwn base w5 (.slice none 0 0) us ∧ us.length = 0 ∧ ∀ q, q < 0 → ∃ g, us[q]? = some (.slice (some ⟨g, 0, none⟩) N.E N.E) ∧ base ≤ g ∧ Row w5 (.slice (some ⟨g, 0, none⟩) N.E N.E) (stX N.E (l.map RB.xs) q) :=
    ⟨N, [], hlay, DSt.Like.refl N, ok, hK5, VOwn.nil _ _, rfl, fun q hq => by omega⟩
  generalize hCD : N.C * N.D = CD at *
  have HCD := hide hCD
  clear hn hb5 hK hK5 hG5 hlay ok hCD
  go_wp2_with fail
  go_loopw [10, 11] (fun v i wr => ∃ k : Nat, k ≤ n ∧ i = .int .i64 k ∧ ∃ N' us, Laid N' (l.map RB.xs) k ∧ N.Like N' ∧ N'.Ok k ∧ KeptD W3 base wr L (pz k) N' k ∧ VOwn base wr v us ∧ us.length = k ∧ ∀ q, q < k → ∃ g, us[q]? = some (.slice (some ⟨g, 0, none⟩) N.E N.E) ∧ base ≤ g ∧ Row wr (.slice (some ⟨g, 0, none⟩) N.E N.E) (stX N.E (l.map RB.xs) q)) (fun _ i _ => n - (intOf i).toNat)
  case atStart => exact ⟨0, Nat.zero_le _, rfl, hlay0⟩
  case round =>
    clear hlay0 c2 c3
    obtain ⟨k, hk, rfl, N', us, hlay, hlike, ok, hK, hown, hul, hus⟩ := hrel
    have hn48 := HN.out
    by_cases hlt2 : k < n
    · obtain ⟨bl, off, cap', hv, hbl, hcs⟩ := HS.out.at (by rw [HL0.out]; omega) (by intro x; simp [RB.cells])
      obtain ⟨rfl, rfl⟩ : ao = some ⟨bl, off, none⟩ ∧ cap = cap' := by rw [HL0.out] at hv; simpa using hv
      obtain ⟨o, ho⟩ : ∃ o, l[k]? = some o := ⟨_, List.getElem?_eq_getElem (by rw [HL0.out]; omega)⟩
      have hrow0 := (HOK.out o (List.mem_of_getElem? ho)).bytes
      have hBw : Below w.heap.size w wr := by rw [hgs]; exact hB3.trans (hK.below.mono (by omega))
      have d0 : wr.cell? ⟨bl, off + k, none⟩ = some o.v := by
        have := hcs k o ho 0 _ rfl
        rw [Nat.mul_one, Nat.add_zero] at this
        exact (hBw.cell (p := ⟨bl, off + k, none⟩) (by exact hbl)).trans this
      have hxk : (l.map RB.xs).getD k [] = o.xs := by simp [List.getD, ho]
      obtain ⟨ov, oxs⟩ := o
      simp only at d0 hrow0 hxk
      have hrow := hrow0.below hBw
      obtain ⟨lo, lcap, rfl⟩ := hrow0.of_len
      have hol := hrow.len
      unfold maxLen at hol
      clear hcs hv ho hrow0
      generalize hln : oxs.length = ln at *
      by_cases hbig : 500 < ln
      · have hbig' : (500 : Int) < ln := by omega
        clear hlay hK hown hus
        go_wp2
        go_ret
        exact ⟨rfl, hBw⟩
      · have hbig' : ¬ (500 : Int) < ln := by omega
        have hklen : (k : Int) < len := by omega
        have hG := hG3'.below hK.below (by omega)
        have c4 := hG.cell 4
        simp [gcells] at c4
        have hbl' : bl ∉ obl u10 := obl_far hown (by omega)
        have hgs' : gs ∉ obl u10 := obl_far hown (by omega)
        have hst : stX N.E (l.map RB.xs) k = fitS oxs N.E := by unfold stX; rw [hxk]
        have hsz := hK.size
        go_wp2_with fail
        go_region_held3 (fun w' => (w'.cell? ⟨bl, off + k, none⟩ = some (.slice lo ln lcap) ∧ w'.cell? ⟨gs, 4, none⟩ = some (.int .i64 (N.E : Int))) ∧ Only (obl u10) wr w')
          (first
            | assumption
            | exact ⟨⟨d0, c4⟩, only_drew wr⟩
            | exact hold2_only (only_below hb41) hbl' hgs' (by assumption)
            | exact hold2_only (only_alloc _ _) hbl' hgs' (by assumption)
            | exact hold2_only (only_obl hg6) hbl' hgs' (by assumption))
          (first
            | (go_at_call 22; refine (fit5_any _ _ oxs N.E (by exact hrow.only (only_drew (l := []) _) (by simp)) (by omega) (by omega)).mono ?_; rintro e w41 ⟨g41, hg41, rfl, ho41, hb41⟩)
            | (refine step_append_vals (by rfl) _ _ (by rfl) base u10 us w41.heap.size 1 (.slice (some ⟨g41, 0, none⟩) N.E N.E) (by rfl) (by exact hown.still (((only_drew (l := []) wr).trans (only_below hb41)).trans (only_alloc _ _))) (by rfl) (by exact ⟨_, _, _, rfl⟩) (by exact ((Blk.new w41 _ _).cell 0).trans rfl) (by omega) (by have := hb41.size; simp at this ⊢; omega) ?_; intro v6 w6 ho6 hg6)
            | fail)
        rw [← hst] at ho41
        have hbyX : Bys (stX N.E (l.map RB.xs) k) := ho41.row.bys
        obtain ⟨hK6, hus6⟩ := stay_want hK hown hul hus hg41 ho41 hb41 hg6 hmb hmo (by omega)
        clear hK hown hus ho41 hb41 hg6 hg41 hrow d0 c4 hbl' hgs' hG hst hxk
        obtain ⟨us6, hu6⟩ : ∃ x, x = us ++ [Value.slice (some ⟨g41, 0, none⟩) N.E N.E] := ⟨_, rfl⟩
        rw [← hu6] at ho6 hus6
        have hl6 : us6.length = k + 1 := by rw [hu6]; simp [hul]
        obtain ⟨gw, wcap, hv6, hbgw, hgwl, hwc⟩ := ho6.form (by omega)
        obtain ⟨k1, hk1⟩ : ∃ k1 : Nat, k1 = k + 1 := ⟨_, rfl⟩
        rw [hl6, ← hk1] at hv6 hwc
        subst hv6
        obtain ⟨g6, e6, hbg6, hr6⟩ := hus6 k (by omega)
        have cw := ho6.cellAt e6
        have hG := hG3'.below hK6.below (by omega)
        have c3 := hG.cell 3
        simp [gcells] at c3
        have HO6 := hide ho6
        have HU6 := hide hus6
        have HL6 := hide hl6
        have HLK := hide hlike
        have hkd := HCD.out
        have hk48 : k < 48 := by omega
        have hCD' : k < N'.C * N'.D := by rw [hlike.2.2.1, hlike.2.2.2.1, hkd]; omega
        obtain ⟨kq, hkq⟩ : ∃ q : Nat, q = k / N.D := ⟨_, rfl⟩
        obtain ⟨kr, hkr⟩ : ∃ q : Nat, q = k % N.D := ⟨_, rfl⟩
        have hq1 : (k : Int).tdiv (N.D : Int) = (kq : Int) := by rw [hkq, Int.tdiv_eq_ediv_of_nonneg (by omega)]; rfl
        have hr1 : (k : Int).tmod (N.D : Int) = (kr : Int) := by rw [hkr, Int.tmod_eq_emod_of_nonneg (by omega)]; rfl
        have hq2 : kq < 48 := by rw [hkq]; exact Nat.lt_of_le_of_lt (Nat.div_le_self _ _) hk48
        have hr2 : kr < 48 := by rw [hkr]; exact Nat.lt_of_le_of_lt (Nat.mod_le _ _) hk48
        have hw1 : IntKind.i64.wrap (kq : Int) = kq := i64_in _ (by omega)
        have hw2 : IntKind.i64.wrap (kr : Int) = kr := i64_in _ (by omega)
        have hw8 : IntKind.u8.wrap (k : Int) = (k : Int) := by rw [IntKind.wrap_u8]; omega
        have hq3 : (k : Int) / (N.D : Int) = (kq : Int) := by rw [hkq]; rfl
        have hr3 : (k : Int) % (N.D : Int) = (kr : Int) := by rw [hkr]; rfl
        have hd0 : ¬ N.D = 0 := by omega
        have hik : (k : Int) < (k1 : Int) := by omega
        have hprog := fun (W : World) (hO : Only [] w6 W) sv hs hsp => Prog5_stay (hK6.still hO) hlay ok hCD' (by omega) (.slice (some ⟨g6, 0, none⟩) N.E N.E) sv (by rw [hlike.2.2.2.2]; exact hr6.only hO (by simp)) hs (fun g off n cap e => by simp at e; omega) hsp (by rw [hlike.2.2.2.2]; exact hbyX) (kq : Int) (kr : Int) (by rw [hlike.2.2.2.1, hkq]) (by rw [hlike.2.2.2.1, hkr])
        have HP := hide hprog
        have HYY : Hid (fitS [(k : Int)] 16 = stY k) := by show _ = fitS [(k : Int) % 256] 16; rw [show (k : Int) % 256 = k from by omega]
        have hgl' : gs ∉ [L.pb, L.mb, L.nb] := by have := hK6.lo; simp; omega
        have hgwl' : gw ∉ [L.pb, L.mb, L.nb] := by simp; omega
        have hks : (0 : Int) ≤ k ∧ (k : Int) < 256 := by omega
        have hsz6 := hK6.size
        have HK1 := hide hk1
        clear ho6 hus6 hbyX hr6 hK6 hlay hlike hG hkq hkr hu6 hprog hkd hCD' ok e6 hl6 hk1
        go_wp2_with fail
        go_region_held3 (fun w' => (w'.cell? ⟨gs, 3, none⟩ = some (.int .i64 (N.D : Int)) ∧ w'.cell? ⟨gw, k, none⟩ = some (.slice (some ⟨g6, 0, none⟩) N.E N.E)) ∧ Only [L.pb, L.mb, L.nb] w6 w')
          (first
            | assumption
            | exact ⟨⟨c3, cw⟩, only_drew w6⟩
            | exact hold2_only (only_alloc _ _) hgl' hgwl' (by assumption)
            | exact hold2_only (only_below hb8) hgl' hgwl' (by assumption)
            | exact hold2_only hO9 hgl' hgwl' (by assumption))
          (first
            | (go_at_call 22; refine (fit5_any _ _ [(k : Int)] 16 (by exact row_new1 _ _ hks) (by omega) (by omega)).mono ?_; rintro e w8 ⟨g8, hg8, rfl, ho8, hb8⟩)
            | (go_at_call 24; refine (HP.out _ (((only_drew (l := []) w6).trans (only_alloc _ _)).trans (only_below hb8)) _ (by rw [← HYY.out]; exact ho8.row) (by intro g off n cap e; simp at e hg8; omega)).mono ?_; rintro e w9 ⟨rfl, hres9, hO9⟩)
            | fail)
        obtain ⟨M, hlayM, hlkM, okM, hKM⟩ := hres9
        have hO69 : Only [L.pb, L.mb, L.nb] w6 w9 := (by assumption : (_ ∧ _) ∧ Only [L.pb, L.mb, L.nb] w6 w9).2
        have hend : ∃ N' us, Laid N' (l.map RB.xs) (k + 1) ∧ N.Like N' ∧ N'.Ok (k + 1) ∧ KeptD W3 base w9 L (pz (k + 1)) N' (k + 1) ∧ VOwn base w9 (.slice (some ⟨gw, 0, none⟩) k1 wcap) us ∧ us.length = k + 1 ∧ ∀ q, q < k + 1 → ∃ g, us[q]? = some (.slice (some ⟨g, 0, none⟩) N.E N.E) ∧ base ≤ g ∧ Row w9 (.slice (some ⟨g, 0, none⟩) N.E N.E) (stX N.E (l.map RB.xs) q) := by
          refine ⟨M, us6, hlayM, HLK.out.trans hlkM, okM, hKM, HO6.out.only hO69 (fun b hb => by cases hb; exact hgwl'), HL6.out, fun q hq => ?_⟩
          obtain ⟨g, e1, e2, e3⟩ := HU6.out q hq
          exact ⟨g, e1, e2, e3.only hO69 (fun b off n c e => by simp at e; simp; omega)⟩
        have HE := hide hend
        clear hend hO69 hlayM hlkM okM hKM
        go_wp2
        exact ⟨⟨k + 1, by omega, by go_num, HE.out⟩, by simp [intOf]; omega⟩
    · obtain rfl : k = n := by omega
      have hG := hG3'.below hK.below (by omega)
      have c2 := hG.cell 2
      simp [gcells] at c2
      obtain ⟨bq, hbq, hbe⟩ := cut_n block N.C (by omega) (by omega)
      have hcz : ¬ N.C = 0 := by omega
      have hcu : IntKind.u64.wrap (N.C : Int) = N.C := by rw [IntKind.wrap_u64]; omega
      have hbqN : bq < N'.C := by rw [hlike.2.2.1]; exact hbq
      have her := Erase5_any base wr L (pz k) N' k k hK.dev (pz_ok k k (Nat.le_refl _)) ok (by omega) (bq : Int) (wfNat5 (by omega))
      rw [eraseD_done hbqN (pz_step k) (pz_failed _)] at her
      have HUL := hide hul
      have HO := hide hown
      have HU := hide hus
      have HK := hide hK
      have HLY := hide hlay
      have HOKN := hide ok
      have HLK := hide hlike
      clear hlay ok hK hown hul hus hlike hG
      go_wp2_with fail
      refine her.mono ?_
      rintro e wE ⟨rfl, hdE, hO, _⟩
      have hOE := hO rfl
      have hKE := HK.out.turn hdE hOE
      have okE : ((N'.wipe bq 255).count bq).Ok (k + 1) := (HOKN.out.wipe (i := bq) 255).count hbqN
      have hpr := Programmed_any base wE L _ k (k + 1) hKE.dev.chip okE (bq : Int) (wfNat5 (by omega))
      have hnx0 : nextD ((N'.wipe bq 255).count bq) (bq : Int) = 0 := by
        unfold nextD
        rw [show isB ((N'.wipe bq 255).count bq) (bq : Int) = true from decide_eq_true ⟨by omega, by show (bq : Int) < ((N'.C : Nat) : Int); omega⟩, if_pos rfl, Int.toNat_natCast]
        exact getD_set_same _ _ _ (by show bq < N'.nx.length; rw [HOKN.out.nl]; exact hbqN)
      rw [hnx0] at hpr
      have HKE := hide hKE
      have HOKE := hide okE
      have HOE := hide hOE
      clear hdE hO hOE hKE okE hnx0 her
      go_wp2_with fail
      refine hpr.mono ?_
      rintro e wE ⟨rfl, rfl⟩
      clear hpr
      have hOw := HO.out.only HOE.out (fun b hb => by have := (HO.out.block b hb).1; simp; omega)
      have hUE : ∀ q, q < k → ∃ g, us[q]? = some (.slice (some ⟨g, 0, none⟩) N.E N.E) ∧ base ≤ g ∧ Row wE (.slice (some ⟨g, 0, none⟩) N.E N.E) (stX N.E (l.map RB.xs) q) := fun q hq => by
        obtain ⟨g, e1, e2, e3⟩ := HU.out q hq
        exact ⟨g, e1, e2, e3.only HOE.out (fun b off n c e => by simp at e; simp; omega)⟩
      have HOw := hide hOw
      have HUE := hide hUE
      clear hOw hUE HO HU HOE HK
      have hCDk : k ≤ N'.C * N'.D := by rw [HLK.out.2.2.1, HLK.out.2.2.2.1, HCD.out]; omega
      have HCK := hide hCDk
      clear hCDk hbe hcu hcz c2
      go_wp2_with fail
      go_loopw [12] (fun i wx => ∃ q : Nat, q ≤ k ∧ i = .int .i64 q ∧ Only [] wE wx) (fun i _ => k - (intOf i).toNat)
      case atStart => exact ⟨0, Nat.zero_le _, rfl, Only.refl _ _⟩
      case round =>
        obtain ⟨q, hq, rfl, hOx⟩ := hrel
        have hKx := HKE.out.still hOx
        by_cases hqk : q < k
        · obtain ⟨gw, wcap, hv, hbgw, hgwl, hwc⟩ := HOw.out.form (by rw [HUL.out]; omega)
          rw [HUL.out] at hv hwc
          subst hv
          obtain ⟨g6, e6, hbg6, hr6⟩ := HUE.out q hqk
          have cw := only_cell hOx (by simp) (HOw.out.cellAt e6)
          have hr6x := hr6.only hOx (by simp)
          have hG := hG3'.below hKx.below (by omega)
          have c3 := hG.cell 3
          have c4 := hG.cell 4
          simp [gcells] at c3 c4
          obtain ⟨kq, hkq⟩ : ∃ x : Nat, x = q / N.D := ⟨_, rfl⟩
          obtain ⟨kr, hkr⟩ : ∃ x : Nat, x = q % N.D := ⟨_, rfl⟩
          have hq1 : (q : Int).tdiv (N.D : Int) = (kq : Int) := by rw [hkq, Int.tdiv_eq_ediv_of_nonneg (by omega)]; rfl
          have hr1 : (q : Int).tmod (N.D : Int) = (kr : Int) := by rw [hkr, Int.tmod_eq_emod_of_nonneg (by omega)]; rfl
          have hq3 : (q : Int) / (N.D : Int) = (kq : Int) := by rw [hkq]; rfl
          have hr3 : (q : Int) % (N.D : Int) = (kr : Int) := by rw [hkr]; rfl
          have hq48 : q < 48 := by omega
          have hq2 : kq < 48 := by rw [hkq]; exact Nat.lt_of_le_of_lt (Nat.div_le_self _ _) hq48
          have hr2 : kr < 48 := by rw [hkr]; exact Nat.lt_of_le_of_lt (Nat.mod_le _ _) hq48
          have hd0 : ¬ N.D = 0 := by omega
          have hw8 : IntKind.u8.wrap (q : Int) = (q : Int) := by rw [IntKind.wrap_u8]; omega
          have hw1 : IntKind.i64.wrap (kq : Int) = kq := i64_in _ (by omega)
          have hread := fun (W : World) (hO : Only [] wr W) => Read5_stay (hKx.still hO) HLY.out HOKN.out HOKE.out HCK.out hqk hbqN HLK.out.2.2.2.2.symm HLK.out.2.2.2.1.symm hkq hkr (by omega) (by omega)
          have HRD := hide hread
          have hqi : (q : Int) < (k : Int) := by omega
          clear hread hG hkq hkr hr6 e6 hKx
          go_wp2_with fail
          go_region_held3 (fun w' => (w'.cell? ⟨gs, 3, none⟩ = some (.int .i64 (N.D : Int)) ∧ w'.cell? ⟨gs, 4, none⟩ = some (.int .i64 (N.E : Int))) ∧ Only [] wr w')
            (first
              | assumption
              | exact ⟨⟨c3, c4⟩, only_drew wr⟩
              | exact hold2_only (only_below hb8) (by simp) (by simp) (by assumption))
            (first
              | (go_at_call 27; refine (HRD.out _ (by exact only_drew wr)).mono ?_; rintro e w8 ⟨da, dof, dc, sa, sof, sc, ds, ss, rfl, hst8, hce8, hb8⟩)
              | fail)
          have hO8 : Only [] wr w8 := (by assumption : (_ ∧ _) ∧ Only [] wr w8).2
          obtain ⟨d1, d2⟩ := hce8
          obtain ⟨hsr, hrd8, hrs8⟩ := hst8
          have f3 := only_cell hO8 (by simp) c3
          have f4 := only_cell hO8 (by simp) c4
          have cw8 := only_cell hO8 (by simp) cw
          have hr68 := hr6x.only hO8 (by simp)
          have hOx8 := hOx.trans hO8
          have HSR := hide hsr
          clear hb8 hO8 c3 c4 cw hr6x hOx hsr HRD
          by_cases hkb : kq = bq
          · obtain ⟨x1, x2⟩ := HSR.out.yes hkb
            rw [x1] at d1
            rw [x2] at d2
            subst hkb
            have hbb : bits .and .u8 255 255 = 255 := by decide
            have hE00 : (0 : Int) < (N.E : Int) := by omega
            clear hrd8 hrs8 hr68 cw8
            go_wp2_with fail
            go_quiet (fail)
            have hend := hOx8.trans (only_below (below_drewN w8 nq))
            go_wp2
            exact ⟨⟨q + 1, by omega, by go_num, hend⟩, by simp [intOf]; omega⟩
          · obtain ⟨x1, x2⟩ := HSR.out.no hkb
            rw [x2] at d2
            subst x1
            have hkb1 : ((kq : Int) == (bq : Int)) = false := by simp; omega
            have hkb2 : ((kq : Int) != (bq : Int)) = true := by simp; omega
            go_wp2_with fail
            go_quiet (first | (go_at_call 29; refine Calls.quiet_of_same (Bytes_any _ _ _ _ _ (by exact hrd8.below (below_drewN _ _)) (by exact hr68.below (below_drewN _ _)))))
            have hend := hOx8.trans (only_below (below_drewN w8 nq))
            go_wp2
            exact ⟨⟨q + 1, by omega, by go_num, hend⟩, by simp [intOf]; omega⟩
        · have hfin : Below w.heap.size w wr := by rw [hgs]; exact hB3.trans (hKx.below.mono (by omega))
          clear hKx
          go_wp2
          go_ret
          exact ⟨rfl, hfin⟩
end Go.Proofs.Ytkfegoelfbjnoaa
