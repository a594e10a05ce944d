/-
  The walk of EntriesOrder.
-/
import Derived.Test.YtjmdinfdnjbcoaaAwake11
import Derived.Test.YtjmdinfdnjbcoaaEntB
import Derived.Test.YtjmdinfdnjbcoaaEntOrderP
import Derived.BigRegion
import Derived.Deep.RegionWith
import Derived.Deep.CutBlock
import Derived.Deep.DeepCutAuto
namespace Go.Proofs.Ytjmdinfdnjbcoaa
open Go.RowKit
set_option linter.unusedVariables false
set_option linter.unusedSimpArgs false
set_option maxRecDepth 100000

theorem gE_wf {i : Nat} (h : i ≤ 100) : (⟨gx i, (i : Int) + 1⟩ : En).Wf := ⟨by unfold maxLen; show 1 ≤ _; omega, wf_i64 (by show _ ≤ (i : Int) + 1; omega) (by show (i : Int) + 1 ≤ _; omega)⟩
theorem gx_size (i : Nat) : (gx i).size ≤ maxLen := by unfold maxLen; show 1 ≤ _; omega
theorem one_stepE {c o : Nat} {x : Value} {w0 w w' : World} (hb : Below w.heap.size w w') (h : w.cell? ⟨c, o, none⟩ = some x ∧ Below w0.heap.size w0 w) : w'.cell? ⟨c, o, none⟩ = some x ∧ Below w0.heap.size w0 w' :=
  ⟨kl_cell hb h.1, h.2.trans (hb.mono h.2.size)⟩
/-- A text of one byte, made of a slice. -/
theorem conv_ord (w : World) (k : Nat) (w' : World) (h0 : w'.cell? ⟨w.heap.size, 0, none⟩ = some (.int .u8 (97 + (k : Int)))) :
    (convert 42 9 (.slice (some ⟨w.heap.size, 0, none⟩) 1 1)).run Try.prog w' = .ok (.string (gx k)) w' := by
  have := run_convert_bytes_arg (P := Try.prog) w' 42 5 Try.underlying42 Try.underlying5 w.heap.size 0 1 1 [97 + (k : Int)] rfl (fun j hj => by
    match j, hj with
    | 0, _ => simpa using h0) 9 Try.underlying9
  rw [this]
  have e : strOfNums [97 + (k : Int)] = gx k := by
    unfold strOfNums gx
    simp only [List.map_cons, List.map_nil]
    rw [show (97 + (k : Int)).toNat = 97 + k by omega]
  rw [e]

set_option maxHeartbeats 8000000 in
theorem EntriesOrder_walk (n0 : Int) (tv : Value) (ts : List Int) (o0 : Int) (w : World) (w0 : (Lit.int .i64 n0).wf = true) (w1 : IRow .i64 w tv ts) (w2 : (Lit.int .i64 o0).wf = true) :
    Calls Try.prog 5 #[.int .i64 n0, tv, .int .i64 o0] w fun e w' => e = .returned (.bool true) ∧ Below w.heap.size w w' := by
  obtain ⟨n1, hn1, en1⟩ := cut_i n0 40 (by omega) (by omega)
  obtain ⟨N, hN⟩ : ∃ N : Nat, N = 1 + n1 := ⟨_, rfl⟩
  have eN : (1 : Int) + (n1 : Int) = (N : Int) := by omega
  have hN1 : 1 ≤ N := by omega
  have hN40 : N ≤ 40 := by omega
  obtain ⟨O, hO, eO⟩ := cut_i o0 (N : Int) (by omega) (by omega)
  have hO' : O < N := by omega
  have hNz : ¬ (N : Int) = 0 := by omega
  have uN : IntKind.u64.wrap (N : Int) = (N : Int) := u64_in _ (by omega)
  have htl := w1.lenII
  have htm := w1.len
  unfold maxLen at htm
  have HTV := hide w1
  have hmk := fun w => run_make_ints w N (by omega)
  have HN := hide hN
  clear hN w0 w1 w2 hn1 hO
  obtain ⟨len, hL⟩ : ∃ n, ts.length = n := ⟨_, rfl⟩
  have HL := hide hL
  rw [hL] at htm
  simp only [hL] at htl
  clear hL
  go_enter Try.func5, Try.ntmps5
  go_wp2_with fail
  have ho0 := own_ints w N (by omega)
  have hb0 := kl_alloc w (.cells (iv .i64 (List.replicate N 0)).toArray 3)
  generalize w.alloc (.cells (iv .i64 (List.replicate N 0)).toArray 3) = W1 at *
  obtain ⟨g, hg⟩ : ∃ g, w.heap.size = g := ⟨_, rfl⟩
  have HG := hide hg
  rw [hg] at ho0 hb0 ⊢
  clear hg
  try simp only [en1]
  have HEO := hide eO
  clear en1 eO
  go_loopw [29] (fun i wr => ∃ k : Nat, k ≤ N ∧ i = .int .i64 k ∧ ∃ xs : List Int, xs.length = N ∧ IOwn .i64 3 g wr (.slice (some ⟨g, 0, none⟩) N N) xs ∧ (∀ j, j < k → xs.getD j 0 = (j : Int)) ∧ Below g w wr) (fun i _ => N - (intOf i).toNat)
  case atStart => exact ⟨0, Nat.zero_le _, rfl, List.replicate N 0, by simp, ho0, fun j hj => by omega, hb0⟩
  case round =>
    obtain ⟨k, hk, rfl, xs, hxl, hown, hxs, hbk⟩ := hrel
    clear ho0 hb0
    by_cases hlt : k < N
    · have hlt' : (k : Int) < N := by omega
      have hc := hown.cellAt hxl k hlt
      have hf := hown.frozenAt hxl k
      have H1 := hide (hown.stored hxl k (k : Int) (wf_i64 (by omega) (by omega)))
      have H2 := hide (show ∀ j, j < k + 1 → (xs.set k (k : Int)).getD j 0 = (j : Int) from fun j hj => by
        rw [getD_set (by omega)]
        by_cases e : k = j
        · rw [if_pos e, e]
        · rw [if_neg e]; exact hxs j (by omega))
      have hB : Below g w (wr.setCell ⟨g, k, none⟩ (.int .i64 (k : Int))) := hbk.setCell (Nat.le_refl _) _
      clear hown hxs
      go_wp2
      exact ⟨⟨k + 1, by omega, by go_num, xs.set k (k : Int), by simp [hxl], H1.out, H2.out, hB⟩, by simp [intOf]; omega⟩
    · obtain rfl : N = k := by omega
      have hall : PermN xs N := ⟨hxl, fun i hi => by rw [hxs i hi]; omega, fun y hy => ⟨y, hy, hxs y hy⟩, fun i j hi hj h => by rw [hxs i hi, hxs j hj] at h; omega⟩
      have HO := hide hown
      have HALL := hide hall
      clear hown hxs hall hlt
      go_wp2
      go_loopw [9] (fun i wr => ∃ q : Nat, q ≤ min len 40 ∧ i = .int .i64 q ∧ ∃ xs : List Int, PermN xs N ∧ IOwn .i64 3 g wr (.slice (some ⟨g, 0, none⟩) N N) xs ∧ Below g w wr) (fun i _ => 40 - (intOf i).toNat)
      case atStart => exact ⟨0, Nat.zero_le _, rfl, xs, HALL.out, HO.out, hbk⟩
      case round =>
        clear hbk HALL HO
        obtain ⟨q, hq, rfl, ys, hall, hown, hbq⟩ := hrel
        go_upto_region 9 with fail
        go_cut [44] (fun c wx => c = .bool (decide (q < min len 40)) ∧ wx = wr)
        case first =>
          by_cases h1 : q < len
          · have h1' : (q : Int) < len := by omega
            by_cases h2 : q < 40
            · have h2' : (q : Int) < 40 := by omega
              go_wp2
              go_meet
              exact ⟨congrArg Value.bool (decide_eq_true (by omega)).symm, rfl⟩
            · have h2' : ¬ (q : Int) < 40 := by omega
              go_wp2
              go_meet
              exact ⟨congrArg Value.bool (decide_eq_false (by omega)).symm, rfl⟩
          · have h1' : ¬ (q : Int) < len := by omega
            go_wp2
            go_meet
            exact ⟨congrArg Value.bool (decide_eq_false (by omega)).symm, rfl⟩
        case rest =>
          obtain ⟨hc0, rfl⟩ := hcut
          by_cases hlt : q < min len 40
          · obtain ⟨hq1, hq2⟩ : q < len ∧ q < 40 := by omega
            rw [decide_eq_true hlt] at hc0
            subst hc0
            have hq1' : (q : Int) < len := by omega
            have hq2' : (q : Int) < 40 := by omega
            obtain ⟨b, o, hbs, hix, hc⟩ := HTV.out.idxII q (by rw [HL.out]; exact hq1)
            have hcw : wc.cell? ⟨b, o, none⟩ = some (.int .i64 (ts.getD q 0)) := (hbq.cell (p := ⟨b, o, none⟩) (by rw [← HG.out]; exact hbs)).trans hc
            obtain ⟨x, hx⟩ : ∃ x, ts.getD q 0 = x := ⟨_, rfl⟩
            rw [hx] at hcw
            obtain ⟨K, hK, eK⟩ := cut_i x (N : Int) (by omega) (by omega)
            have hK' : K < N := by omega
            obtain ⟨P, hP⟩ : ∃ P, q % N = P := ⟨_, rfl⟩
            have hP' : P < N := by rw [← hP]; exact Nat.mod_lt _ (by omega)
            have eP1 : (q : Int) % (N : Int) = (P : Int) := by rw [← hP]; rfl
            have eP2 : (q : Int).tmod (N : Int) = (P : Int) := by rw [Int.tmod_eq_emod_of_nonneg (by omega)]; exact eP1
            have wP : IntKind.i64.wrap (P : Int) = (P : Int) := in64 _ (by omega)
            have hcP := hown.cellAt hall.len P hP'
            have hcK := hown.cellAt hall.len K hK'
            have hfP := hown.frozenAt hall.len P
            have hfK := hown.frozenAt hall.len K
            have hrK := hall.rng K hK'
            have hrP := hall.rng P hP'
            have hK1 : (K : Int) < N := by omega
            have hP1 : (P : Int) < N := by omega
            have h1 := hown.stored hall.len P (ys.getD K 0) (wf_i64 (by omega) (by omega))
            have h2 := h1.stored (by rw [List.length_set]; exact hall.len) K (ys.getD P 0) (wf_i64 (by omega) (by omega))
            have HALL := hide (hall.swap hP' hK')
            have HOW := hide h2
            have hB : Below g w ((wc.setCell ⟨g, P, none⟩ (.int .i64 (ys.getD K 0))).setCell ⟨g, K, none⟩ (.int .i64 (ys.getD P 0))) := (hbq.setCell (Nat.le_refl _) _).setCell (Nat.le_refl _) _
            clear h1 h2 hall hbq hc hx hP hrK hrP hK
            by_cases hPK : P = K
            · subst hPK
              generalize ys.getD P 0 = yP at *
              clear hcK hfK hown
              go_wp2_with fail
              go_region
              all_goals
                go_wp2
                exact ⟨⟨q + 1, by omega, by go_num, _, HALL.out, HOW.out.drew, hB.drew⟩, by simp [intOf]; omega⟩
            · have hKP : ¬ K = P := fun e => hPK e.symm
              generalize ys.getD K 0 = yK at *
              generalize ys.getD P 0 = yP at *
              clear hown
              go_wp2_with fail
              go_region
              all_goals
                go_wp2
                exact ⟨⟨q + 1, by omega, by go_num, _, HALL.out, HOW.out.drew, hB.drew⟩, by simp [intOf]; omega⟩
          · rw [decide_eq_false hlt] at hc0
            subst hc0
            have HALL := hide hall
            have HOW := hide hown
            clear hall hown hlt
            go_wp2
            go_loopw [11, 12, 13, 14, 15] (fun av bv ev fv i wr => ∃ (k : Nat) (B : List En), k ≤ N ∧ i = .int .i64 k ∧ ev = .int .i64 0 ∧ fv = .int .i64 0 ∧ Hid (InB ys k B) ∧ Hid (ERow wr av (ordE k)) ∧ Hid (ERow wr bv B) ∧ Hid (IOwn .i64 3 g wr (.slice (some ⟨g, 0, none⟩) N N) ys) ∧ Hid (Below g w wr)) (fun _ _ _ _ i _ => N - (intOf i).toNat)
            case atStart => exact ⟨0, [], Nat.zero_le _, rfl, rfl, rfl, hide (InB.nil ys), hide (ERow.nil _), hide (ERow.nil _), HOW, hide hbq⟩
            case round =>
              clear hbq HOW
              obtain ⟨k, B, hk, rfl, rfl, rfl, HIN, HA, HB, HO, HBK⟩ := hrel
              by_cases hlt : k < N
              · have hlt' : (k : Int) < N := by omega
                have hk39 : k ≤ 39 := by omega
                have hrx := HALL.out.rng k hlt
                have hcz := HO.out.cellAt HALL.out.len k hlt
                obtain ⟨y, hy⟩ : ∃ y : Nat, ys.getD k 0 = (y : Int) := ⟨(ys.getD k 0).toNat, by omega⟩
                obtain ⟨B', hadd, hin'⟩ := HIN.out.add HALL.out (by omega) hlt hy
                rw [hy] at hcz hrx
                have hy39 : y ≤ 39 := by omega
                have HIN' := hide hin'
                have HAB := hide hadd
                have HAA := hide (ord_add (k := k) (by omega))
                have HBL := hide (show B.length ≤ 1000000 by rw [HIN.out.len]; omega)
                have hB1 := kl_alloc wr (.cells #[.int .u8 (97 + (k : Int))] 5)
                have hcv := conv_ord wr k _ ((Blk.new wr #[.int .u8 (97 + (k : Int))] 5).cell 0)
                have HA1 := hide (HA.out.below hB1)
                have HB1 := hide (HB.out.below hB1)
                have HO1 := hide (HO.out.kept hB1)
                have HC1 := hide (kl_cell hB1 hcz)
                have hgz := HO.out.lt
                have HG1 := hide (Nat.le_of_lt hgz.2)
                have HBK1 := hide (HBK.out.trans (hB1.mono HG1.out))
                have HS1 := hide hB1.size
                clear hB1 hrx hcz hadd hin' hgz hy
                go_wp2_with fail
                refine (Add_any _ u11 (ordE k) (gx k) ((k : Int) + 1) HA1.out (by rw [ordE_length]; omega) (gE_wf (by omega))).mono ?_
                rintro e1 w1 ⟨y1, rfl, hy1, hb1⟩
                rw [show (⟨gx k, (k : Int) + 1⟩ : En) = gE k from rfl, HAA.out]
                rw [show (⟨gx k, (k : Int) + 1⟩ : En) = gE k from rfl, HAA.out] at hy1
                have HA2 := hide hy1.row
                have HB2 := hide (HB1.out.below hb1)
                have HO2 := hide (HO1.out.kept hb1)
                have hc2 := kl_cell hb1 HC1.out
                have HG2 := hide (Nat.le_trans HG1.out (Nat.le_trans HS1.out hb1.size))
                have HBK2 := hide (HBK1.out.trans (hb1.mono (Nat.le_trans HG1.out HS1.out)))
                clear hy1 hb1 hcv
                have hcv1 := fun W => conv_ord W y _ ((Blk.new W #[.int .u8 (97 + (y : Int))] 5).cell 0)
                have hcv2 : (convert 42 9 (.slice (some ⟨w1.heap.size, 0, none⟩) 1 1)).run Try.prog (w1.alloc (.cells #[.int .u8 (97 + (y : Int))] 5)).drew = .ok (.string (gx y)) (w1.alloc (.cells #[.int .u8 (97 + (y : Int))] 5)).drew :=
                  conv_ord w1 y _ ((Blk.new w1 #[.int .u8 (97 + (y : Int))] 5).cell 0)
                have hcv3 : (convert 42 9 (.slice (some ⟨w1.heap.size, 0, none⟩) 1 1)).run Try.prog (w1.drew.alloc (.cells #[.int .u8 (97 + (y : Int))] 5)) = .ok (.string (gx y)) (w1.drew.alloc (.cells #[.int .u8 (97 + (y : Int))] 5)) :=
                  conv_ord w1 y _ ((Blk.new w1.drew #[.int .u8 (97 + (y : Int))] 5).cell 0)
                have HWF := hide (gE_wf (i := y) (by omega))
                have wy1 : IntKind.u8.wrap (y : Int) = (y : Int) := by rw [IntKind.wrap_u8]; omega
                have wy2 : IntKind.u8.wrap (97 + (y : Int)) = 97 + (y : Int) := by rw [IntKind.wrap_u8]; omega
                have wy3 : IntKind.i64.wrap ((y : Int) + 1) = (y : Int) + 1 := in64 _ (by omega)
                have HBD := hide (show Below w1.heap.size w1 (w1.alloc (.cells #[.int .u8 (97 + (y : Int))] 5)).drew from (kl_alloc _ _).drew)
                have hc3 := kl_cell HBD.out hc2
                go_wp2_with fail
                go_region_with (go_at_call 9; refine (Add_any _ u12 B (gx y) ((y : Int) + 1) (HB2.out.below HBD.out) HBL.out HWF.out).mono ?_; rintro e9 w9 ⟨u9, rfl, ho9, hb9⟩)
                all_goals
                  rw [show (⟨gx y, (y : Int) + 1⟩ : En) = gE y from rfl, HAB.out]
                  rw [show (⟨gx y, (y : Int) + 1⟩ : En) = gE y from rfl, HAB.out] at ho9
                  have hb9' := kl_step hb9 HBD.out
                  have HB9 := hide ho9.row
                  have HA9 := hide (HA2.out.below hb9')
                  have HO9 := hide (HO2.out.kept hb9')
                  have HBK9 := hide (HBK2.out.trans (hb9'.mono HG2.out))
                  clear ho9 hb9 hb9' hcv1 hcv2 hcv3 hc2 hc3
                  go_wp2
                  go_roundw
                  case rel => exact ⟨k + 1, B', by omega, by go_num, rfl, rfl, HIN', HA9, HB9, HO9, HBK9⟩
                  case measure => simp [intOf]; omega
              · obtain rfl : N = k := by omega
                obtain rfl : B = ordE N := HIN.out.all HALL.out (by omega)
                have hgz := HO.out.lt
                have HG0 := hide (Nat.le_of_lt hgz.2)
                have eO := HEO.out
                have hO40 : O ≤ 39 := by omega
                have HRM := hide (ord_rem (n := N) hO' (by omega))
                have HBC := hide (ord_back (n := N) hO' (by omega))
                have HRT := hide (ord_right (n := N) (by omega))
                have HCL := hide (ord_cut_len (n := N) hO')
                have hB1 := kl_alloc wr (.cells #[.int .u8 (97 + (O : Int))] 5)
                have hcv := conv_ord wr O _ ((Blk.new wr #[.int .u8 (97 + (O : Int))] 5).cell 0)
                have HA1 := hide (HA.out.below hB1)
                have HB1 := hide (HB.out.below hB1)
                have HK1 := hide (HBK.out.trans (hB1.mono HG0.out))
                have HG1 := hide (Nat.le_trans HG0.out hB1.size)
                clear hB1 hgz HIN HA HB HO HBK HALL hlt
                go_wp2_with fail
                refine (Remove_any _ u11 (ordE N) HA1.out (by rw [ordE_length]; omega) (gx O) (gx_size O)).mono ?_
                rintro e1 w1 ⟨y1, rfl, hy1, hb1⟩
                rw [HRM.out]
                rw [HRM.out] at hy1
                have HC2 := hide hy1.row
                have HA2 := hide (HA1.out.below hb1)
                have HB2 := hide (HB1.out.below hb1)
                have HK2 := hide (HK1.out.trans (hb1.mono HG1.out))
                have HG2 := hide (Nat.le_trans HG1.out hb1.size)
                clear hy1 hb1 hcv
                have hB3 := kl_alloc w1 (.cells #[.int .u8 (97 + (O : Int))] 5)
                have hcv := conv_ord w1 O _ ((Blk.new w1 #[.int .u8 (97 + (O : Int))] 5).cell 0)
                have HC3 := hide (HC2.out.below hB3)
                have HA3 := hide (HA2.out.below hB3)
                have HB3 := hide (HB2.out.below hB3)
                have HK3 := hide (HK2.out.trans (hB3.mono HG2.out))
                have HG3 := hide (Nat.le_trans HG2.out hB3.size)
                clear hB3
                go_wp2_with fail
                refine (Add_any _ y1 (cutAt (ordE N) O) (gx O) ((O : Int) + 1) HC3.out (by rw [HCL.out]; omega) (gE_wf (by omega))).mono ?_
                rintro e2 w2 ⟨y2, rfl, hy2, hb2⟩
                rw [show (⟨gx O, (O : Int) + 1⟩ : En) = gE O from rfl, HBC.out]
                rw [show (⟨gx O, (O : Int) + 1⟩ : En) = gE O from rfl, HBC.out] at hy2
                have HD4 := hide hy2.row
                have HC4 := hide (HC3.out.below hb2)
                have HA4 := hide (HA3.out.below hb2)
                have HB4 := hide (HB3.out.below hb2)
                have HK4 := hide (HK3.out.trans (hb2.mono HG3.out))
                have HG4 := hide (Nat.le_trans HG3.out hb2.size)
                clear hy2 hb2 hcv
                have hla : ∀ (w' : World) (ty : TypeId), (Builtin.len_ #[22] ty #[u11]).run Try.prog w' = .ok (.int .i64 (N : Int)) w' := fun w' ty => by
                  have := HA4.out.lenRun w' ty
                  rwa [ordE_length] at this
                have hlc : ∀ (w' : World) (ty : TypeId), (Builtin.len_ #[22] ty #[y1]).run Try.prog w' = .ok (.int .i64 ((N : Int) - 1)) w' := fun w' ty => by
                  have := HC4.out.lenRun w' ty
                  rwa [HCL.out, show ((N - 1 : Nat) : Int) = (N : Int) - 1 by omega] at this
                go_wp2_with fail
                refine (awake_any _).mono ?_
                rintro e3 w3 ⟨rfl, hb3⟩
                have HD5 := hide (HD4.out.below hb3)
                have HA5 := hide (HA4.out.below hb3)
                have HB5 := hide (HB4.out.below hb3)
                have HK5 := hide (HK4.out.trans (hb3.mono HG4.out))
                have HG5 := hide (Nat.le_trans HG4.out hb3.size)
                clear hb3
                go_wp2_with fail
                refine (PlainE_any _ _ _ (ordE N) (ordE N) HA5.out HB5.out).mono ?_
                rintro e4 w4 ⟨rfl, hb4⟩
                rw [decide_eq_true rfl]
                have HD6 := hide (HD5.out.below hb4)
                have HA6 := hide (HA5.out.below hb4)
                have HK6 := hide (HK5.out.trans (hb4.mono HG5.out))
                have HG6 := hide (Nat.le_trans HG5.out hb4.size)
                clear hb4
                go_wp2_with fail
                refine (RightE_any _ _ (ordE N) HA6.out).mono ?_
                rintro e5 w5 ⟨rfl, hb5⟩
                rw [HRT.out]
                have HD7 := hide (HD6.out.below hb5)
                have HA7 := hide (HA6.out.below hb5)
                have HK7 := hide (HK6.out.trans (hb5.mono HG6.out))
                have HG7 := hide (Nat.le_trans HG6.out hb5.size)
                clear hb5
                go_wp2_with fail
                refine (PlainE_any _ _ _ (ordE N) (ordE N) HD7.out HA7.out).mono ?_
                rintro e6 w6 ⟨rfl, hb6⟩
                rw [decide_eq_true rfl]
                have HK8 := hide (HK7.out.trans (hb6.mono HG7.out))
                clear hb6
                go_wp2
                go_ret
                exact ⟨rfl, by rw [HG.out]; exact HK8.out⟩
end Go.Proofs.Ytjmdinfdnjbcoaa
