/-
  The walk of garretlaw05.NandTorn.
-/
import Derived.Test.YtkfegoelfbjnoaaTornP5
import Derived.Deep.CutBlock
import Derived.Deep.DeepCutAuto
namespace Go.Proofs.Ytkfegoelfbjnoaa
open Go.RowKit
set_option linter.unusedVariables false
set_option maxRecDepth 100000

set_option maxHeartbeats 4000000 in
theorem NandTorn_walk (dv : Value) (d : List Int) (mask what : Int) (w : World) (hd : IRow .u8 w dv d) (hmw : (Lit.int .u8 mask).wf = true) (hww : (Lit.int .i64 what).wf = true) :
    Calls Try.prog 6 #[dv, .int .u8 mask, .int .i64 what] w fun e w' => e = .returned (.bool true) ∧ Below w.heap.size w w' := by
  have hmask := wf_u8 hmw
  have hrd := hd.bytes
  obtain ⟨da, dcap, rfl⟩ := hrd.of_len
  have HRD := hide hrd
  have hdl := hrd.len
  unfold maxLen at hdl
  have HBD := hide hrd.bys
  obtain ⟨r, hrem, hr3⟩ : ∃ r : Int, (IntKind.u64.wrap what).tmod 3 = r ∧ (r = 0 ∨ r = 1 ∨ r = 2) := by
    have h0 : 0 ≤ what % 18446744073709551616 := Int.emod_nonneg _ (by omega)
    refine ⟨_, rfl, ?_⟩
    rw [IntKind.wrap_u64, Int.tmod_eq_emod_of_nonneg h0]
    omega
  clear hd hrd
  generalize hdn : d.length = dn at *
  have HDN := hide hdn
  clear hdn
  go_enter Try.func6, Try.ntmps6
  go_wp2_with fail
  refine (small5_any _).mono ?_
  rintro e w1 ⟨A, B, C, D, E, rfl, hr, hq, hB1⟩
  have HQ := hide hq
  clear hq
  unfold gcells
  have hG1 : Blk (w1.alloc (.cells #[.int .i64 A, .int .i64 B, .int .i64 C, .int .i64 D, .int .i64 E] 23)) w1.heap.size #[.int .i64 A, .int .i64 B, .int .i64 C, .int .i64 D, .int .i64 E] 23 := Blk.new w1 _ _
  have hB1' : Below w.heap.size w (w1.alloc (.cells #[.int .i64 A, .int .i64 B, .int .i64 C, .int .i64 D, .int .i64 E] 23)) := hB1.alloc hB1.size _
  generalize hW1 : w1.alloc (.cells #[.int .i64 A, .int .i64 B, .int .i64 C, .int .i64 D, .int .i64 E] 23) = W1 at *
  have hgb : w1.heap.size < W1.heap.size := hG1.lt
  generalize hgs : w1.heap.size = gb at *
  go_wp2_with fail
  try rw [hW1]
  refine (New_any _).mono ?_
  rintro e w2 ⟨rfl, hw2⟩
  have HW2 := hide hw2
  have hb2 : Below W1.heap.size W1 w2 := by rw [hw2]; exact (Below.refl _ _).alloc (Nat.le_refl _) _
  clear hw2 hW1 hgs
  have hG2 := hG1.below hb2 hgb
  have c0 := hG2.cell 0
  have c1 := hG2.cell 1
  have c2 := hG2.cell 2
  have c3 := hG2.cell 3
  have c4 := hG2.cell 4
  simp at c0 c1 c2 c3 c4
  have hu := rightS_of hr
  have hnn := fun po => NewNand_right w2 A B C D E po (wf_i64 (by omega) (by omega)) hr
  unfold gcells at hnn
  go_wp2_with fail
  refine (hnn _).mono ?_
  rintro e w3 ⟨k, mb, nb, eb, rfl, hmade⟩
  have hK := hmade.kept hB1' HW2.out hr
  have ok := DSt.new_ok hr 0
  have hNC : (DSt.new A B C D E).C = C ∧ (DSt.new A B C D E).D = D ∧ (DSt.new A B C D E).E = E ∧ (DSt.new A B C D E).nx.getD 1 0 = 0 ∧ (DSt.new A B C D E).er.getD 1 0 = 0 := ⟨rfl, rfl, rfl, by show (List.replicate C (0 : Int)).getD 1 0 = 0; exact getD_rep _ _ _ (by omega), by show (List.replicate C (0 : Int)).getD 1 0 = 0; exact getD_rep _ _ _ (by omega)⟩
  have hG3 := hG2.below hmade.below hG2.lt
  have HZ0 : Hid (∀ i, i < (DSt.new A B C D E).C → (DSt.new A B C D E).nx.getD i 0 = 0) := fun i hi => getD_rep _ _ _ hi
  clear HW2 hmade hr c0 c1 c2 c3 c4 hG2 hnn hb2 hB1'
  have hmb : mb < w3.heap.size := hK.dev.chip.pgs.choose_spec.1.lt
  generalize hL : (⟨k, W1.heap.size, none, mb, nb, eb⟩ : DLay) = L at *
  obtain rfl : k = L.c := by rw [← hL]
  obtain rfl : mb = L.mb := by rw [← hL]
  have hpbE : W1.heap.size = L.pb := by rw [← hL]
  have hmo : L.mo = none := by rw [← hL]
  clear hL
  rw [hpbE] at *
  have hgb3 : gb < w3.heap.size := hG3.lt
  generalize hbase : w3.heap.size = base at *
  generalize DSt.new A B C D E = N at *
  obtain ⟨rfl, rfl, rfl, hnx1, her1⟩ := hNC
  have HOK := hide ok
  have HN1 := hide hnx1
  have HE1 := hide her1
  have hC0 := ok.C0
  have hD0 := ok.D0
  have hE0 := ok.E0
  have hE1 := ok.E1
  have hlt := hK.dev.chip.lt
  clear ok hnx1 her1
  have hWw := hK.wb
  go_wp2_with fail
  refine (awake5_any w3).mono ?_
  rintro e w4 ⟨rfl, hb4⟩
  have hK4 := hK.below' hb4
  have hG4 := hG3.below hb4 (by omega)
  have hr4 := HRD.out.below (hK4.below)
  have d4 := hG4.cell 4
  simp at d4
  have hfx := fit5_any w4 _ d N.E hr4 (by omega) (by omega)
  clear hK hb4 hG3 hr4
  go_wp2_with fail
  refine hfx.mono ?_
  rintro e w5 ⟨gx, hgx, rfl, hox, hb5⟩
  have hK5 := hK4.below' hb5
  have hgx' : base ≤ gx := Nat.le_trans hK4.size hgx
  have hox' := hox.mono hK4.size
  have hrow3 : Row (w5.alloc (.cells #[.int .u8 1, .int .u8 2, .int .u8 3] 5)) (.slice (some ⟨w5.heap.size, 0, none⟩) 3 3) [1, 2, 3] :=
    (own_block (n := 3) (base := 0) (xs := [1, 2, 3]) (Blk.new w5 _ _) (Nat.zero_le _) rfl (by omega) (fun x hx => by simp at hx; omega)).row
  have hfs := fit5_any _ _ _ 16 hrow3 (by omega) (by omega)
  have hK5a := hK5.alloc (.cells #[.int .u8 1, .int .u8 2, .int .u8 3] 5)
  have hb5a : Below w5.heap.size w5 (w5.alloc (.cells #[.int .u8 1, .int .u8 2, .int .u8 3] 5)) := (Below.refl _ _).alloc (Nat.le_refl _) _
  have hox5 := hox'.kept hb5a
  generalize hY : fitS [1, 2, 3] 16 = Y at *
  have hYl : Y.length = 16 := by rw [← hY]; exact fitS_length _ _
  have hYb : Bys Y := by rw [← hY]; exact fitS_bys (fun x hx => by simp at hx; omega) _
  generalize hX : fitS d N.E = X at *
  have hXl : X.length = N.E := by rw [← hX]; exact fitS_length _ _
  have hXb : Bys X := by rw [← hX]; exact fitS_bys HBD.out _
  have HXL := hide hXl
  have HYL := hide hYl
  clear hfx hK4 hG4 d4 hox hb5 hX hY hrow3 hXl hYl hK5 hox' hb5a
  rw [show ((16 : Nat) : Int) = 16 from rfl] at hfs
  go_wp2_with fail
  refine hfs.mono ?_
  rintro e w6 ⟨gy, hgy, rfl, hoy, hb6⟩
  have hK6 := hK5a.below' hb6
  have hgy' : base ≤ gy := Nat.le_trans hK5a.size hgy
  have hoy' := hoy.mono hK5a.size
  have hox6 := hox5.kept hb6
  clear hfs hoy hb6 hox5 hK5a
  go_wp2_with (at_builtin; refine wpList_append_row rfl _ _ rfl w6.heap.size _ _ [] X rfl (Own.nil _ _) rfl hox6.row (by have := HXL.out; simp; omega) (Nat.le_refl _) ?_)
  intro wv w7 how hg7
  try rw [List.nil_append] at how
  have hb7 : Below w6.heap.size w6 w7 := (Below.refl _ _).grown hg7 (Nat.le_refl _) (fun k e => by cases e)
  have hK7 := hK6.below' hb7
  have hox7 := hox6.kept hb7
  have hoy7 := hoy'.kept hb7
  have how7 := how.mono hK6.size
  obtain ⟨gw, wcap, rfl, hgw, _, hwc⟩ := how.form (by rw [HXL.out]; omega)
  have hgx6 := (hox6.block gx rfl).2
  have hgy6 := (hoy'.block gy rfl).2
  have hgwb : base ≤ gw := Nat.le_trans hK6.size hgw
  rw [HXL.out] at how7 ⊢
  clear hg7 hb7 hox6 hoy' hK6 how
  have hz0 : ∀ i, i < N.C → N.nx.getD i 0 = 0 := HZ0.out
  have hgxw : gx ≠ gw := by omega
  have hgyw : gy ≠ gw := by omega
  have hpE : ∀ (S : PSt) (XS : List Int), True := fun _ _ => trivial
  have hmo7 : L.mo ≠ some gw := by rw [hmo]; simp
  clear hpE
  go_upto_block 0 with fail
  go_cut [14, 15, 16] (fun s14 s15 s16 wx => ∃ (f : Int) (L1 : DLay) (S1 S2 : PSt) (XS : List Int), s14 = .int .i64 f ∧ TornCut w base wx L N X Y (.slice (some ⟨gx, 0, none⟩) N.E N.E) (.slice (some ⟨gy, 0, none⟩) 16 16) (.slice (some ⟨gw, 0, none⟩) N.E wcap) f L1 S1 S2 XS)
  case first =>
    rcases hr3 with rfl | rfl | rfl
    · have hcut := CutE_any w7 L.pb L.mo PSt.zero 0 mask hK7.dev.pow
      go_wp2_with fail
      refine hcut.mono ?_
      rintro e w8 ⟨rfl, hP8, hg8⟩
      have hK8 := hK7.pow hP8 hg8
      have hO8 : Only [L.pb] w7 w8 := only_grown hg8 (fun k e => by cases e; simp)
      have hox8 := hox7.apart hO8 rfl (by simp; omega)
      have hoy8 := hoy7.apart hO8 rfl (by simp; omega)
      have how8 := how7.apart hO8 rfl (by simp; omega)
      clear hcut hP8 hg8 hO8 hK7 hox7 hoy7 how7
      go_wp2_with fail
      go_loopw [64, 15] (fun i _ wr => ∃ k : Nat, k ≤ N.E ∧ i = .int .i64 k ∧ Own base wr (.slice (some ⟨gw, 0, none⟩) N.E wcap) (turn .or mask X k) ∧ Only [gw] w8 wr) (fun i _ _ => N.E - (intOf i).toNat)
      case atStart => exact ⟨0, Nat.zero_le _, rfl, by rw [turn_zero]; exact how8, Only.refl _ _⟩
      case round =>
        obtain ⟨k, hk, rfl, hB, hg⟩ := hrel
        by_cases hlt : k < N.E
        · have hl := (turn_length .or mask X k).trans HXL.out
          have hc := hB.cellAt hl k hlt
          have hf := hB.frozenAt hl k
          rw [turn_at _ _ _ (by rw [HXL.out]; exact hlt)] at hc
          have R := hB.stored hl k (bits .or .u8 (X.getD k 0) mask) (bits_u8 _ _ _)
          rw [turn_succ _ _ _ (by rw [HXL.out]; exact hlt)] at R
          have G := hg.trans (only_setCell wr gw k (.int .u8 (bits .or .u8 (X.getD k 0) mask)) [gw] (by simp))
          have HR := hide R
          generalize X.getD k 0 = x at *
          clear R hB hl hg
          go_wp2
          exact ⟨⟨k + 1, by omega, by go_num, HR.out, G⟩, by simp [intOf]; omega⟩
        · obtain rfl : k = N.E := by omega
          rw [turn_all _ _ _ (by rw [HXL.out]; exact Nat.le_refl _)] at hB
          have hKr := hK8.other0 hz0 hg (by omega) hmb hmo7
          have hoxr := hox8.apart hg rfl (by simpa using hgxw)
          have hoyr := hoy8.apart hg rfl (by simpa using hgyw)
          have hsc : (PSt.zero.cut 0 mask).step = (false, true, { (PSt.zero.cut 0 mask) with off := true }) := rfl
          have R : TornCut w base wr L N X Y (.slice (some ⟨gx, 0, none⟩) N.E N.E) (.slice (some ⟨gy, 0, none⟩) 16 16) (.slice (some ⟨gw, 0, none⟩) N.E wcap) 6 L (PSt.zero.cut 0 mask) _ _ :=
            ⟨hKr, rfl, rfl, hmb, (PSt.zero_ok5 0).cut (by decide) hmw, prog_torn (i := 1) (k := 0) HOK.out (by omega) (by omega) HXL.out HYL.out HN1.out.symm hsc, by simp [HXL.out, HYL.out], turn_bys _ _ (hXb.app hYb), by
              have := turned_take .or mask X Y
              rw [HXL.out] at this
              show Own base wr _ (List.take N.E (List.map (fun x => bits .or .u8 x mask) (X ++ Y)))
              rw [this]; exact hB, hoxr.row, hoyr.row⟩
          clear hKr hoxr hoyr hB hg hK8 hox8 hoy8 how8 hsc
          go_wp2
          go_meet
          exact ⟨6, L, _, _, _, rfl, R⟩
    · have hI := irow_one w7 0 (by decide)
      have hK7a := hK7.alloc (.cells #[.int .i64 0] 3)
      have hb7a : Only [] w7 (w7.alloc (.cells #[.int .i64 0] 3)) := only_grown (World.grownBy_alloc _ _ none) (by simp)
      have hfl := FailE_any _ L.pb L.mo PSt.zero _ [0] hK7a.dev.pow hI (by simp)
      have hsz7 := (how7.block gw rfl).2
      clear hI
      go_wp2_with fail
      refine hfl.mono ?_
      rintro e w8 ⟨rfl, q, hq1, hq2, hP8, hg8⟩
      have hK8 := hK7a.fail hq1 hP8 hg8
      have hO8 : Only [L.pb] w7 w8 := (hb7a.wide (by simp)).trans (only_grown hg8 (fun k e => by cases e; simp))
      have hox8 := hox7.apart hO8 rfl (by simp; omega)
      have hoy8 := hoy7.apart hO8 rfl (by simp; omega)
      have how8 := how7.apart hO8 rfl (by simp; omega)
      have hmo8 : ({ L with mo := some q } : DLay).mo ≠ some gw := by simp at hq1 ⊢; omega
      clear hfl hP8 hg8 hO8 hK7 hK7a hb7a hox7 hoy7 how7 hq1 hq2
      go_wp2_with fail
      go_loopw [82, 16] (fun i _ wr => ∃ k : Nat, k ≤ N.E ∧ i = .int .i64 k ∧ Own base wr (.slice (some ⟨gw, 0, none⟩) N.E wcap) (turn .and 170 X k) ∧ Only [gw] w8 wr) (fun i _ _ => N.E - (intOf i).toNat)
      case atStart => exact ⟨0, Nat.zero_le _, rfl, by rw [turn_zero]; exact how8, Only.refl _ _⟩
      case round =>
        obtain ⟨k, hk, rfl, hB, hg⟩ := hrel
        by_cases hlt : k < N.E
        · have hl := (turn_length .and 170 X k).trans HXL.out
          have hc := hB.cellAt hl k hlt
          have hf := hB.frozenAt hl k
          rw [turn_at _ _ _ (by rw [HXL.out]; exact hlt)] at hc
          have R := hB.stored hl k (bits .and .u8 (X.getD k 0) 170) (bits_u8 _ _ _)
          rw [turn_succ _ _ _ (by rw [HXL.out]; exact hlt)] at R
          have G := hg.trans (only_setCell wr gw k (.int .u8 (bits .and .u8 (X.getD k 0) 170)) [gw] (by simp))
          have HR := hide R
          generalize X.getD k 0 = x at *
          clear R hB hl hg
          go_wp2
          exact ⟨⟨k + 1, by omega, by go_num, HR.out, G⟩, by simp [intOf]; omega⟩
        · obtain rfl : k = N.E := by omega
          rw [turn_all _ _ _ (by rw [HXL.out]; exact Nat.le_refl _)] at hB
          have hKr := hK8.other0 hz0 hg (by omega) hmb hmo8
          have hoxr := hox8.apart hg rfl (by simpa using hgxw)
          have hoyr := hoy8.apart hg rfl (by simpa using hgyw)
          have hsc : ({ PSt.zero with fails := [0] } : PSt).step = (true, false, { PSt.zero with fails := [0], steps := 1 }) := rfl
          have R : TornCut w base wr L N X Y (.slice (some ⟨gx, 0, none⟩) N.E N.E) (.slice (some ⟨gy, 0, none⟩) 16 16) (.slice (some ⟨gw, 0, none⟩) N.E wcap) 7 { L with mo := some q } { PSt.zero with fails := [0] } _ _ :=
            ⟨hKr, rfl, rfl, hmb, (PSt.zero_ok5 0).fails _, prog_fails (i := 1) (k := 0) HOK.out (by omega) (by omega) HXL.out HYL.out HN1.out.symm hsc (by decide), by simp [HXL.out, HYL.out], turn_bys _ _ (hXb.app hYb), by
              have := turned_take .and 170 X Y
              rw [HXL.out] at this
              rw [this]; exact hB, hoxr.row, hoyr.row⟩
          clear hKr hoxr hoyr hB hg hK8 hox8 hoy8 how8 hsc
          go_wp2
          go_meet
          exact ⟨7, _, _, _, _, rfl, R⟩
    · have hsc : PSt.zero.step = (true, false, { PSt.zero with steps := 1 }) := rfl
      have R : TornCut w base w7 L N X Y (.slice (some ⟨gx, 0, none⟩) N.E N.E) (.slice (some ⟨gy, 0, none⟩) 16 16) (.slice (some ⟨gw, 0, none⟩) N.E wcap) 0 L PSt.zero _ _ :=
        ⟨hK7, rfl, rfl, hmb, PSt.zero_ok5 0, progD_done (i := 1) (k := 0) HOK.out (by omega) (by omega) HXL.out HYL.out HN1.out.symm hsc rfl, by simp [HXL.out, HYL.out], hXb.app hYb, by
          rw [List.take_left' HXL.out]; exact how7, hox7.row, hoy7.row⟩
      clear hK7 hox7 hoy7 how7 hsc
      go_wp2
      go_meet
      exact ⟨0, L, _, _, _, rfl, R⟩
  case rest =>
    obtain ⟨f, L1, S1, S2, XS, rfl, hT⟩ := hcut
    rw [← hT.c, ← hT.pb]
    have hmb1 := hT.mb
    have hlt1 := hT.kept.dev.chip.lt
    have okS2 : S2.Ok 1 := by have := (progD_ok (b := 1) (p := 0) hT.ok HOK.out hXb hYb).1; rwa [hT.prog] at this
    have okN1 : (N.put 1 0 XS).Ok 1 := (HOK.out.put (i := 1) (k := 0) (by omega) (by omega) HN1.out.symm hT.len hT.bys).more (by omega)
    have hnx1 : (N.put 1 0 XS).nx.getD 1 0 = 1 := by rw [put_next HOK.out (by omega), HN1.out]; rfl
    have hrd1 := readD_put (i := 1) (k := 0) HOK.out (by omega) (by omega) hT.len
    have farx : ∀ b off n cap, (.slice (some ⟨gx, 0, none⟩) N.E N.E : Value) = .slice (some ⟨b, off, none⟩) n cap → base ≤ b := fun b off n cap e => by cases e; exact hgx'
    have fary : ∀ b off n cap, (.slice (some ⟨gy, 0, none⟩) 16 16 : Value) = .slice (some ⟨b, off, none⟩) n cap → base ≤ b := fun b off n cap e => by cases e; exact hgy'
    have farw : ∀ b off n cap, (.slice (some ⟨gw, 0, none⟩) N.E wcap : Value) = .slice (some ⟨b, off, none⟩) n cap → base ≤ b := fun b off n cap e => by cases e; exact hgwb
    have nex : ∀ n : Nat, 0 < n → ∀ g off n cap, (.slice (some ⟨gx, 0, none⟩) N.E N.E : Value) = .slice (some ⟨g, off, none⟩) n cap → g ≠ L1.pb := fun _ _ g off n cap e => by have := farx g off n cap e; omega
    have ney : ∀ n : Nat, 0 < n → ∀ g off n cap, (.slice (some ⟨gy, 0, none⟩) 16 16 : Value) = .slice (some ⟨g, off, none⟩) n cap → g ≠ L1.pb := fun _ _ g off n cap e => by have := fary g off n cap e; omega
    have K0 := hT.kept
    have x0 := hT.x
    have y0 := hT.y
    have q0 := hT.want.row
    have hpg := Program5_any base wc L1 S1 N 0 0 K0.dev hT.ok HOK.out (by omega) (by omega) K0.size 1 0 (by decide) (by decide) _ _ X Y x0 y0 (nex _) (ney _)
    have HP := hide hT.prog
    rw [hT.prog] at hpg
    have hXSl := hT.len
    clear hT hK7 hox7 hoy7 how7
    generalize hN1 : N.put 1 0 XS = N1 at *
    have HN1E : Hid (N1.E = N.E ∧ N1.C = N.C ∧ N1.D = N.D ∧ N1.er.getD 1 0 = 0) := by rw [← hN1]; exact ⟨rfl, rfl, rfl, HE1.out⟩
    clear hN1
    generalize hWW : XS.take N.E = WW at *
    have HNX := hide hnx1
    have HRD1 := hide hrd1
    clear hnx1 hrd1 hWW hXSl HP
    go_wp2_with fail
    refine hpg.mono ?_
    rintro e v1 ⟨rfl, hD1, hO1⟩
    have K1 := K0.turn hD1 (hO1.wide (by simp))
    have x1 := K0.rowKept hmb1 farx x0 hO1 (by simp)
    have y1 := K0.rowKept hmb1 fary y0 hO1 (by simp)
    have q1 := K0.rowKept hmb1 farw q0 hO1 (by simp)
    have hon := OnE_any v1 L1.pb L1.mo S2 K1.dev.pow
    clear hpg hD1 hO1 K0 x0 y0 q0
    go_wp2_with fail
    refine hon.mono ?_
    rintro e v2 ⟨rfl, hP2, hg2⟩
    have K2 := K1.pow hP2 hg2
    have hO2 : Only [L1.pb] v1 v2 := only_grown hg2 (fun k e => by cases e; simp)
    have x2 := K1.rowKept hmb1 farx x1 hO2 (by simp)
    have y2 := K1.rowKept hmb1 fary y1 hO2 (by simp)
    have q2 := K1.rowKept hmb1 farw q1 hO2 (by simp)
    have okS3 := okS2.on
    have ho3 : S2.on.off = false ∧ S2.on.armed = false := ⟨rfl, rfl⟩
    have hrd := Read5_any base v2 L1 N1 1 1 K2.dev.chip okN1 1 0 (by decide) (by decide)
    rw [show readD N1 1 0 = _ from HRD1.out] at hrd
    generalize S2.on = S3 at *
    clear hon hP2 hg2 hO2 K1 x1 y1 q1
    go_wp2_with fail
    refine hrd.mono ?_
    rintro e v3 ⟨yv, yv', rfl, hyf, _, hb3⟩
    have K3 := K2.below' hb3
    have x3 := x2.below hb3
    have y3 := y2.below hb3
    have q3 := q2.below hb3
    have z3 := hyf.row
    have farz : ∀ b off n cap, yv = .slice (some ⟨b, off, none⟩) n cap → base ≤ b := fun b off n cap e => Nat.le_trans K2.size (hyf.from b off n cap e)
    obtain ⟨za, zcap, rfl⟩ := z3.of_len
    clear hrd K2 x2 y2 q2 hb3 hyf
    have hpg := Program5_any base v3 L1 S3 N1 1 1 K3.dev okS3 okN1 (by omega) (by omega) K3.size 1 0 (by decide) (by decide) _ _ X Y x3 y3 (nex _) (ney _)
    have hE1' := HN1E.out
    rw [show progD S3 N1 1 0 X Y = (8, S3, N1) from progD_order (i := 1) (k := 0) okN1 (by omega) (by omega) (by rw [HXL.out, hE1'.1]) HYL.out (by rw [HNX.out]; decide)] at hpg
    clear hE1'
    go_wp2_with fail
    refine hpg.mono ?_
    rintro e v4 ⟨rfl, hD4, hO4⟩
    have K4 := K3.turn hD4 (hO4.wide (by simp))
    have x4 := K3.rowKept hmb1 farx x3 hO4 (by simp)
    have y4 := K3.rowKept hmb1 fary y3 hO4 (by simp)
    have q4 := K3.rowKept hmb1 farw q3 hO4 (by simp)
    have z4 := K3.rowKept hmb1 farz z3 hO4 (by simp)
    clear hpg hD4 hO4 K3 x3 y3 q3 z3
    have hst := StepsE_any v4 L1.pb L1.mo S3 K4.dev.pow
    go_wp2_with fail
    refine hst.mono ?_
    rintro e v5 ⟨rfl, rfl⟩
    have hI := irow_one v5 S3.steps (wf_i64 (by have := okS3.steps0; omega) (by have := okS3.steps1; omega))
    have K5 := K4.alloc (.cells #[.int .i64 S3.steps] 3)
    have hO5 : Only [] v5 (v5.alloc (.cells #[.int .i64 S3.steps] 3)) := only_grown (World.grownBy_alloc _ _ none) (by simp)
    have x5 := K4.rowKept hmb1 farx x4 hO5 (by simp)
    have y5 := K4.rowKept hmb1 fary y4 hO5 (by simp)
    have q5 := K4.rowKept hmb1 farw q4 hO5 (by simp)
    have z5 := K4.rowKept hmb1 farz z4 hO5 (by simp)
    have hfl := FailE_any _ L1.pb L1.mo S3 _ [S3.steps] K5.dev.pow hI (by simp)
    clear hst hI K4 hO5 x4 y4 q4 z4
    go_wp2_with fail
    refine hfl.mono ?_
    rintro e v6 ⟨rfl, q, hq1, hq2, hP6, hg6⟩
    have K6 := K5.fail hq1 hP6 hg6
    have hO6 : Only [L1.pb] _ v6 := only_grown hg6 (fun k e => by cases e; simp)
    have x6 := K5.rowKept hmb1 farx x5 hO6 (by simp)
    have y6 := K5.rowKept hmb1 fary y5 hO6 (by simp)
    have q6 := K5.rowKept hmb1 farw q5 hO6 (by simp)
    have z6 := K5.rowKept hmb1 farz z5 hO6 (by simp)
    clear hfl hP6 hg6 hO6 K5 x5 y5 q5 z5 hq1 hq2
    generalize hL2 : ({ L1 with mo := some q } : DLay) = L2 at *
    have hmb2 : L2.mb < base := by rw [← hL2]; exact hmb1
    have e1 : L1.pb = L2.pb := by rw [← hL2]
    have e2 : L1.c = L2.c := by rw [← hL2]
    clear hL2
    rw [e1] at nex ney
    rw [e1, e2]
    clear e1 e2
    have okS4 := okS3.fails [S3.steps]
    have hs4 := step_on ({ S3 with fails := [S3.steps] } : PSt) ho3.1 ho3.2
    have hf4 := failed_last S3 okS3.steps0
    have her := Erase5_any base v6 L2 _ N1 2 1 K6.dev okS4 okN1 (by omega) 1 (by decide)
    rw [show eraseD ({ S3 with fails := [S3.steps] } : PSt) N1 1 = _ from eraseD_fails (i := 1) (by have := HN1E.out; omega) hs4 hf4, hs4] at her
    have okS5 : ({ S3 with fails := [S3.steps], steps := S3.steps + 1 } : PSt).Ok 2 := by have := okS4.step; rw [hs4] at this; exact this
    have ho5 : ({ S3 with fails := [S3.steps], steps := S3.steps + 1 } : PSt).off = false ∧ ({ S3 with fails := [S3.steps], steps := S3.steps + 1 } : PSt).armed = false := ho3
    clear okS4 hf4 hs4
    simp only at her
    generalize ({ S3 with fails := [S3.steps], steps := S3.steps + 1 } : PSt) = S5 at *
    go_wp2_with fail
    refine her.mono ?_
    rintro e v7 ⟨rfl, hD7, hO7, _⟩
    have hO7' := hO7 trivial
    have K7 := K6.turn hD7 hO7'
    have x7 := K6.rowKept hmb2 farx x6 hO7' (by simp)
    have y7 := K6.rowKept hmb2 fary y6 hO7' (by simp)
    have q7 := K6.rowKept hmb2 farw q6 hO7' (by simp)
    have z7 := K6.rowKept hmb2 farz z6 hO7' (by simp)
    clear her hD7 hO7 hO7' K6 x6 y6 q6 z6
    have hrd := Read5_any base v7 L2 N1 2 1 K7.dev.chip okN1 1 0 (by decide) (by decide)
    rw [show readD N1 1 0 = _ from HRD1.out] at hrd
    go_wp2_with fail
    refine hrd.mono ?_
    rintro e v8 ⟨uv, uv', rfl, huf, _, hb8⟩
    have K8 := K7.below' hb8
    have x8 := x7.below hb8
    have y8 := y7.below hb8
    have q8 := q7.below hb8
    have z8 := z7.below hb8
    have u8 := huf.row
    have faru : ∀ b off n cap, uv = .slice (some ⟨b, off, none⟩) n cap → base ≤ b := fun b off n cap e => Nat.le_trans K7.size (huf.from b off n cap e)
    obtain ⟨ua, ucap, rfl⟩ := u8.of_len
    clear hrd K7 x7 y7 q7 z7 hb8 huf
    have hfl := FailE_any v8 L2.pb L2.mo S5 _ [] K8.dev.pow (IRow.nil _ _) (by simp)
    go_wp2_with fail
    refine hfl.mono ?_
    rintro e v9 ⟨rfl, q9, hq1, hq2, hP9, hg9⟩
    have K9 := K8.fail hq1 hP9 hg9
    have hO9 : Only [L2.pb] v8 v9 := only_grown hg9 (fun k e => by cases e; simp)
    have x9 := K8.rowKept hmb2 farx x8 hO9 (by simp)
    have y9 := K8.rowKept hmb2 fary y8 hO9 (by simp)
    have q9' := K8.rowKept hmb2 farw q8 hO9 (by simp)
    have z9 := K8.rowKept hmb2 farz z8 hO9 (by simp)
    have u9 := K8.rowKept hmb2 faru u8 hO9 (by simp)
    clear hfl hP9 hg9 hO9 K8 x8 y8 q8 z8 u8 hq1 hq2
    generalize hL3 : ({ L2 with mo := some q9 } : DLay) = L3 at *
    have hmb3 : L3.mb < base := by rw [← hL3]; exact hmb2
    have e1 : L2.pb = L3.pb := by rw [← hL3]
    have e2 : L2.c = L3.c := by rw [← hL3]
    clear hL3
    rw [e1] at nex ney
    rw [e1, e2]
    clear e1 e2
    have okS6 := okS5.fails []
    have hs6 := step_on ({ S5 with fails := [] } : PSt) ho5.1 ho5.2
    have hf6 : PSt.failed ({ S5 with fails := [], steps := S5.steps + 1 } : PSt) = false := failed_none { S5 with steps := S5.steps + 1 }
    have okN2 := okN1.more (show 1 ≤ 2 by omega)
    have hpg := Program5_any base v9 L3 _ N1 2 2 K9.dev okS6 okN2 (by omega) (by omega) K9.size 1 1 (by decide) (by decide) _ _ X Y x9 y9 (nex _) (ney _)
    have hE1' := HN1E.out
    have hXY : (X ++ Y).length = N1.E + 16 := by rw [List.length_append, HXL.out, HYL.out, hE1'.1]
    rw [show progD ({ S5 with fails := [] } : PSt) N1 1 1 X Y = _ from progD_done (i := 1) (k := 1) okN2 (by omega) (by omega) (by rw [HXL.out, hE1'.1]) HYL.out (by rw [HNX.out]; rfl) hs6 hf6] at hpg
    have okN3 : (N1.put 1 1 (X ++ Y)).Ok 2 := okN2.put (by omega) (by omega) (by rw [HNX.out]; rfl) hXY (hXb.app hYb)
    have okS7 : ({ S5 with fails := [], steps := S5.steps + 1 } : PSt).Ok 3 := by have := okS6.step; rw [hs6] at this; exact this
    have ho7 : ({ S5 with fails := [], steps := S5.steps + 1 } : PSt).off = false ∧ ({ S5 with fails := [], steps := S5.steps + 1 } : PSt).armed = false ∧ ({ S5 with fails := [], steps := S5.steps + 1 } : PSt).fails = [] := ⟨ho5.1, ho5.2, rfl⟩
    have her3 : (N1.put 1 1 (X ++ Y)).er.getD 1 0 = 0 ∧ 1 < (N1.put 1 1 (X ++ Y)).C := ⟨hE1'.2.2.2, by show 1 < N1.C; omega⟩
    clear hE1' hs6 hf6 okS6
    simp only at hpg
    generalize ({ S5 with fails := [], steps := S5.steps + 1 } : PSt) = S7 at *
    generalize N1.put 1 1 (X ++ Y) = N3 at *
    go_wp2_with fail
    refine hpg.mono ?_
    rintro e v10 ⟨rfl, hD10, hO10⟩
    have K10 := K9.turn hD10 (hO10.wide (by simp))
    have q10 := K9.rowKept hmb3 farw q9' hO10 (by simp)
    have z10 := K9.rowKept hmb3 farz z9 hO10 (by simp)
    have u10 := K9.rowKept hmb3 faru u9 hO10 (by simp)
    clear hpg hD10 hO10 K9 x9 y9 q9' z9 u9
    have hs7 := step_on S7 ho7.1 ho7.2.1
    have hf7 : PSt.failed ({ S7 with steps := S7.steps + 1 } : PSt) = false := by
      have := failed_none ({ S7 with steps := S7.steps + 1 } : PSt)
      rw [show ({ ({ S7 with steps := S7.steps + 1 } : PSt) with fails := [] } : PSt) = { S7 with steps := S7.steps + 1 } from by
        cases S7; simp at ho7; simp [ho7]] at this
      exact this
    have her := Erase5_any base v10 L3 S7 N3 3 3 K10.dev okS7 (okN3.more (by omega)) (by omega) 1 (by decide)
    rw [show eraseD S7 N3 1 = _ from eraseD_done (i := 1) her3.2 hs7 hf7, hs7] at her
    have hnext : nextD ((N3.wipe 1 255).count 1) 1 = 0 := by
      unfold nextD
      rw [if_pos (by simp [isB]; show (1 : Int) < (N3.C : Int); have := her3.2; omega)]
      exact getD_set_same _ _ _ (by show 1 < N3.nx.length; rw [okN3.nl]; exact her3.2)
    have hcount : countD ((N3.wipe 1 255).count 1) 1 = 1 := by
      unfold countD
      rw [if_pos (by simp [isB]; show (1 : Int) < (N3.C : Int); have := her3.2; omega)]
      show (N3.er.set 1 (N3.er.getD 1 0 + 1)).getD 1 0 = 1
      rw [getD_set_same _ _ _ (by rw [okN3.el]; exact her3.2), her3.1]
      rfl
    have okN4 : ((N3.wipe 1 255).count 1).Ok 4 := ((okN3.more (show 2 ≤ 3 by omega)).wipe 255).count her3.2
    generalize (N3.wipe 1 255).count 1 = N4 at *
    have HNXT := hide hnext
    have HCNT := hide hcount
    clear hnext hcount hs7 hf7
    simp only at her
    go_wp2_with fail
    refine her.mono ?_
    rintro e v11 ⟨rfl, hD11, hO11, _⟩
    have hO11' := hO11 trivial
    have K11 := K10.turn hD11 hO11'
    have q11 := K10.rowKept hmb3 farw q10 hO11' (by simp)
    have z11 := K10.rowKept hmb3 farz z10 hO11' (by simp)
    have u11 := K10.rowKept hmb3 faru u10 hO11' (by simp)
    clear her hD11 hO11 hO11' K10 q10 z10 u10
    have b1 := Bytes_any v11 _ _ _ _ z11 q11
    have b2 := Bytes_any v11 _ _ _ _ u11 q11
    rw [decide_eq_true rfl] at b1 b2
    have p1 := Programmed_any base v11 L3 N4 _ 4 K11.dev.chip okN4 1 (by decide)
    have p2 := Erases5_any base v11 L3 N4 _ 4 K11.dev.chip okN4 1 (by decide)
    rw [HNXT.out] at p1
    rw [HCNT.out] at p2
    have hfin := K11.below
    clear K11 q11 z11 u11
    go_wp2_with fail
    refine b1.mono ?_
    rintro e v12 ⟨rfl, rfl⟩
    go_wp2_with fail
    refine b2.mono ?_
    rintro e v13 ⟨rfl, rfl⟩
    go_wp2_with fail
    refine p1.mono ?_
    rintro e v14 ⟨rfl, rfl⟩
    go_wp2_with fail
    refine p2.mono ?_
    rintro e v15 ⟨rfl, rfl⟩
    go_wp2
    go_ret
    exact ⟨rfl, hfin⟩
end Go.Proofs.Ytkfegoelfbjnoaa
