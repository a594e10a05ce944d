/-
  The walk of garretlaw05.NandPlays.
-/
import Derived.Test.YthiehpofmlbehaaTwoD5
import Derived.Test.YthiehpofmlbehaaPlayQ5
import Derived.Test.YthiehpofmlbehaaAwake05
import Derived.Test.YthiehpofmlbehaaRNandE
import Derived.Test.YthiehpofmlbehaaGeoO5
import Derived.Test.YthiehpofmlbehaaHelp
import Derived.Test.YthiehpofmlbehaaHelp2
import Derived.Lib.Builder
import Derived.Deep.CutBlock
import Derived.Deep.DeepCutAuto
namespace Go.Proofs.Ythiehpofmlbehaa
open Go.RowKit
set_option linter.unusedVariables false
set_option maxRecDepth 100000

/-- One thing that is done. -/
structure OpD where
  kind : Int
  block : Int
  page : Int
  n : Int
  mask : Int
  dv : Value
  d : List Int
  sv : Value
  s : List Int
instance : Inhabited OpD := ⟨⟨0, 0, 0, 0, 0, .slice none 0 0, [], .slice none 0 0, []⟩⟩
def OpD.cells (o : OpD) : List Value := [.int .i64 o.kind, .int .i64 o.block, .int .i64 o.page, .int .i64 o.n, .int .u8 o.mask, o.dv, o.sv]
structure OpD.Ok (w : World) (o : OpD) : Prop where
  kind : (Lit.int .i64 o.kind).wf = true
  block : (Lit.int .i64 o.block).wf = true
  page : (Lit.int .i64 o.page).wf = true
  n : (Lit.int .i64 o.n).wf = true
  mask : (Lit.int .u8 o.mask).wf = true
  d : IRow .u8 w o.dv o.d
  s : IRow .u8 w o.sv o.s
theorem opens_opd (w : World) : Opens Try.prog w 45 (fun cs => ∃ o : OpD, cs = o.cells ∧ o.Ok w) := by
  have hI : ∀ w : World, Opens Try.prog w 3 _ := fun w => opens_int Try.underlying3
  have hB : ∀ w : World, Opens Try.prog w 5 _ := fun w => opens_int Try.underlying5
  have hL : ∀ w : World, Opens Try.prog w 43 _ := fun w => opens_ints Try.underlying43 Try.underlying5 (by kernel_rfl)
  intro H enc fuel cs x h
  obtain ⟨xs, n, _, rfl, hl, hlen, hf⟩ := DataW.trod_struct Try.underlying45 h
  have c7 : Try.prog.cellsOf 45 = 7 := by kernel_rfl
  have ci : Try.prog.cellsOf 3 = 1 := by kernel_rfl
  have cb : Try.prog.cellsOf 5 = 1 := by kernel_rfl
  have cl : Try.prog.cellsOf 43 = 1 := by kernel_rfl
  rw [c7] at hl
  match xs, hlen, cs, hl with
  | [y0, y1, y2, y3, y4, y5, y6], _, [v0, v1, v2, v3, v4, v5, v6], _ =>
    have g0 := hf 0 _ rfl
    have g1 := hf 1 _ rfl
    have g2 := hf 2 _ rfl
    have g3 := hf 3 _ rfl
    have g4 := hf 4 _ rfl
    have g5 := hf 5 _ rfl
    have g6 := hf 6 _ rfl
    simp [ci, cb, cl] at g0 g1 g2 g3 g4 g5 g6
    obtain ⟨a0, h0, p0⟩ := hI w _ _ _ _ _ g0
    obtain ⟨a1, h1, p1⟩ := hI w _ _ _ _ _ g1
    obtain ⟨a2, h2, p2⟩ := hI w _ _ _ _ _ g2
    obtain ⟨a3, h3, p3⟩ := hI w _ _ _ _ _ g3
    obtain ⟨a4, h4, p4⟩ := hB w _ _ _ _ _ g4
    obtain ⟨a5, l, h5, p5⟩ := hL w _ _ _ _ _ g5
    obtain ⟨a6, l2, h6, p6⟩ := hL w _ _ _ _ _ g6
    simp at h0 h1 h2 h3 h4 h5 h6
    subst h0 h1 h2 h3 h4 h5 h6
    exact ⟨⟨a0, a1, a2, a3, a4, _, l, _, l2⟩, rfl, p0, p1, p2, p3, p4, p5, p6⟩
theorem NandPlays_open2 (w : World) : Opens Try.prog w 25 (fun cs => ∃ v xs, cs = [v] ∧ Seq w 7 OpD.cells v xs ∧ ∀ o ∈ xs, o.Ok w) := by
  have h := opens_slice Try.underlying25 OpD.cells (OpD.Ok w) (opens_opd w)
  rwa [show Try.prog.cellsOf 45 = 7 from by kernel_rfl] at h

/-- What the first region holds. -/
abbrev HoldQ5 (W : World) (s : Nat) (a b c d e : Int) (w : World) : Prop :=
  (w.cell? ⟨s, 0, none⟩ = some (.int .i64 a) ∧ w.cell? ⟨s, 1, none⟩ = some (.int .i64 b) ∧ w.cell? ⟨s, 2, none⟩ = some (.int .i64 c) ∧ w.cell? ⟨s, 3, none⟩ = some (.int .i64 d) ∧ w.cell? ⟨s, 4, none⟩ = some (.int .i64 e)) ∧ (Blk w s (gcells a b c d e) 23 ∧ Below W.heap.size W w)
theorem holdQ5_below {W : World} {s : Nat} {a b c d e : Int} {w w' : World} (hb : Below w.heap.size w w') (h : HoldQ5 W s a b c d e w) : HoldQ5 W s a b c d e w' :=
  have k := holdG5_below (s := s) hb ⟨h.1, h.2.1⟩
  ⟨k.1, k.2, h.2.2.trans (hb.mono h.2.2.size)⟩
theorem holdQ5_drew {W : World} {s : Nat} {a b c d e : Int} {w : World} (h : HoldQ5 W s a b c d e w) : HoldQ5 W s a b c d e w.drew := holdQ5_below (Below.refl _ _).drew h
theorem neGeo5 (w : World) (a b c d e : Int) : (binOp .neq 23 (.agg #[.int .i64 a, .int .i64 b, .int .i64 c, .int .i64 d, .int .i64 e]) (.agg #[.int .i64 a, .int .i64 b, .int .i64 c, .int .i64 d, .int .i64 e])).run Try.prog w = .ok (.bool false) w := by
  go_simp
theorem nePow5 (w : World) (a : Addr) : (binOp .neq 28 (.pointer (some a)) (.pointer (some a))).run Try.prog w = .ok (.bool false) w := by
  obtain ⟨j, hj⟩ := Option.isSome_iff_exists.1 (show (Try.prog.info? 64).isSome = true by kernel_rfl)
  exact Lib.run_neq_ptr_same w a Try.underlying28 hj

theorem cell_onlyD {l : List Nat} {w w' : World} {b i : Nat} {u : Value} (hg : Only l w w') (hn : b ∉ l) (h : w.cell? ⟨b, i, none⟩ = some u) : w'.cell? ⟨b, i, none⟩ = some u :=
  (World.cell?_of_block (a := ⟨b, i, none⟩) (hg.block b (World.block_lt_of_cell? w _ h) hn)).trans h
theorem holdE_O {l : List Nat} {w w' : World} {b i : Nat} {u : Value} {cs : Array Value} {t : TypeId} (hg : Only l w w') (hn : b ∉ l) (h : w.cell? ⟨b, i, none⟩ = some u ∧ Blk w b cs t) : w'.cell? ⟨b, i, none⟩ = some u ∧ Blk w' b cs t := ⟨cell_onlyD hg hn h.1, h.2.only hg hn⟩
theorem holdE_T {base : Nat} {l : List Nat} {w w' : World} {b i : Nat} {u : Value} {cs : Array Value} {t : TypeId} (hg : OnlyB base l w w') (hn : b ∉ l) (ht : t ≠ 5) (h : w.cell? ⟨b, i, none⟩ = some u ∧ Blk w b cs t) : w'.cell? ⟨b, i, none⟩ = some u ∧ Blk w' b cs t := by
  have h2 := h.2.onlyT hg hn ht
  refine ⟨?_, h2⟩
  have e := h.1
  rw [h.2.cell i] at e
  rw [h2.cell i]
  exact e

set_option maxHeartbeats 4000000 in
theorem NandPlays_walk (ga gb gc gd ge : Int) (fv : Value) (fl : List Int) (v : Value) (ops : List OpD) (w : World) (w0 : GeoOk ga gb gc gd ge) (hfl : IRow .i64 w fv fl) (hs : Seq w 7 OpD.cells v ops) (hok : ∀ o ∈ ops, o.Ok w) :
    Calls Try.prog 3 #[.agg (gcells ga gb gc gd ge), fv, v] w fun e w' => e = .returned (.bool true) ∧ Below w.heap.size w w' := by
  have hlm := hs.len
  unfold maxLen at hlm
  have hlf := hfl.len
  unfold maxLen at hlf
  obtain ⟨ao, cap, hv⟩ := hs.of_len
  subst hv
  obtain ⟨fo, fcap, hfv⟩ := hfl.of_len
  subst hfv
  generalize hL0 : ops.length = len at *
  generalize hF0 : fl.length = flen at *
  have HS := hide hs
  have HL0 := hide hL0
  have HF0 := hide hF0
  have HOK := hide hok
  have HFL := hide hfl
  clear hs hL0 hok hfl hF0
  have hplay := fun w => playN_any w ga gb gc gd ge
  have hB0 : Below w.heap.size w (w.alloc (.cells (gcells ga gb gc gd ge) 23)) := (Below.refl _ _).alloc (Nat.le_refl _) _
  have hG0 : Blk (w.alloc (.cells (gcells ga gb gc gd ge) 23)) w.heap.size (gcells ga gb gc gd ge) 23 := Blk.new w _ _
  unfold gcells at hplay hB0 hG0 ⊢
  go_enter Try.func3, Try.ntmps3
  go_wp2_with fail
  generalize hW1 : w.alloc (.cells #[.int .i64 ga, .int .i64 gb, .int .i64 gc, .int .i64 gd, .int .i64 ge] 23) = W1 at *
  clear hW1
  refine (hplay _).mono ?_
  rintro e W2 ⟨A, B, C, D, E, rfl, hr, hq, hb2⟩
  have HQ := hide hq
  clear hq
  have hs1 := hG0.lt
  have hB2 := hB0.trans (hb2.mono (by omega))
  have hG2 := hG0.below hb2 hG0.lt
  clear hb2 hB0 hG0 hplay
  have c0 := hG2.cell 0
  have c1 := hG2.cell 1
  have c2 := hG2.cell 2
  have c3 := hG2.cell 3
  have c4 := hG2.cell 4
  have f0 := hG2.frozen 0
  have f1 := hG2.frozen 1
  have f2 := hG2.frozen 2
  have f3 := hG2.frozen 3
  have f4 := hG2.frozen 4
  simp at c0 c1 c2 c3 c4
  have hG3 := ((((hG2.set 0 (.int .i64 A)).set 1 (.int .i64 B)).set 2 (.int .i64 C)).set 3 (.int .i64 D)).set 4 (.int .i64 E)
  have hB3 : Below w.heap.size w (((((W2.setCell ⟨w.heap.size, 0, none⟩ (.int .i64 A)).setCell ⟨w.heap.size, 1, none⟩ (.int .i64 B)).setCell ⟨w.heap.size, 2, none⟩ (.int .i64 C)).setCell ⟨w.heap.size, 3, none⟩ (.int .i64 D)).setCell ⟨w.heap.size, 4, none⟩ (.int .i64 E)) := ((((hB2.setCell (Nat.le_refl _) _).setCell (Nat.le_refl _) _).setCell (Nat.le_refl _) _).setCell (Nat.le_refl _) _).setCell (Nat.le_refl _) _
  by_cases hbig : (50 : Int) < flen
  · go_wp2_with fail
    generalize hW3 : ((((W2.setCell ⟨w.heap.size, 0, none⟩ (.int .i64 A)).setCell ⟨w.heap.size, 1, none⟩ (.int .i64 B)).setCell ⟨w.heap.size, 2, none⟩ (.int .i64 C)).setCell ⟨w.heap.size, 3, none⟩ (.int .i64 D)).setCell ⟨w.heap.size, 4, none⟩ (.int .i64 E) = W3 at *
    refine (awake5_any W3).mono ?_
    rintro e w4 ⟨rfl, hb4⟩
    have hs3lt : w.heap.size < W3.heap.size := hG3.lt
    have hF := hB3.trans (hb4.mono (by omega))
    go_wp2
    go_ret
    exact ⟨rfl, hF⟩
  have hfl50 : flen ≤ 50 := by omega
  go_wp2_with fail
  generalize hW3 : ((((W2.setCell ⟨w.heap.size, 0, none⟩ (.int .i64 A)).setCell ⟨w.heap.size, 1, none⟩ (.int .i64 B)).setCell ⟨w.heap.size, 2, none⟩ (.int .i64 C)).setCell ⟨w.heap.size, 3, none⟩ (.int .i64 D)).setCell ⟨w.heap.size, 4, none⟩ (.int .i64 E) = W3 at *
  clear hW3 c0 c1 c2 c3 c4 f0 f1 f2 f3 f4 hG2 hB2
  have hs3lt : w.heap.size < W3.heap.size := hG3.lt
  refine (New_any _).mono ?_
  rintro e w4 ⟨rfl, hw4⟩
  have HW4 := hide hw4
  clear hw4
  go_wp2_with fail
  refine (RNew_any _).mono ?_
  rintro e w5 ⟨rfl, hw5⟩
  have hs4 : w4.heap.size = W3.heap.size + 1 := by rw [HW4.out]; simp
  have hw5' : w5 = (W3.alloc (.cells (pcells PSt.zero none) 64)).alloc (.cells (rcells PSt.zero (.slice none 0 0)) 42) := by rw [hw5, HW4.out]
  have hs5 : w5.heap.size = W3.heap.size + 2 := by rw [hw5']; simp
  have HW5 := hide hw5'
  rw [hs4]
  have hb5 : Below W3.heap.size W3 w5 := by rw [hw5']; exact ((Below.refl _ _).alloc (Nat.le_refl _) _).alloc (by simp) _
  clear hw5 hw5' HW4 hs4
  have hG5 := hG3.below hb5 hs3lt
  have c0 := hG5.cell 0
  have c1 := hG5.cell 1
  have c2 := hG5.cell 2
  have c3 := hG5.cell 3
  have c4 := hG5.cell 4
  simp at c0 c1 c2 c3 c4
  have hAw : (Lit.int .i64 (A : Int)).wf = true := by have := rightS_of hr; exact wf_i64 (by omega) (by omega)
  have hnn := fun po => NewNand_right w5 A B C D E po hAw hr
  unfold gcells at hnn
  go_wp2_with fail
  refine (hnn _).mono ?_
  rintro e w6 ⟨k, mb, nb, eb, rfl, hm6⟩
  have hb6 := hb5.trans (hm6.below.mono hb5.size)
  have hG6 := hG3.below hb6 hs3lt
  clear c0 c1 c2 c3 c4 hG5 hnn
  have c0 := hG6.cell 0
  have c1 := hG6.cell 1
  have c2 := hG6.cell 2
  have c3 := hG6.cell 3
  have c4 := hG6.cell 4
  simp at c0 c1 c2 c3 c4
  have hnr := RNewNand_right w6 A B C D E (W3.heap.size + 1) (by have := hm6.below.size; omega) hAw hr
  unfold gcells at hnr
  go_wp2_with fail
  refine hnr.mono ?_
  rintro e w7 ⟨M, rfl, hR7, hMp, hMl, hb7⟩
  have hT := twoD_made (w0 := W3) (Below.refl _ _) HW5.out hm6 hr hR7 hMp hMl hb7
  have ok := DSt.new_ok hr 0
  have hNg : (DSt.new A B C D E).A = A ∧ (DSt.new A B C D E).B = B ∧ (DSt.new A B C D E).C = C ∧ (DSt.new A B C D E).D = D ∧ (DSt.new A B C D E).E = E := ⟨rfl, rfl, rfl, rfl, rfl⟩
  clear c0 c1 c2 c3 c4 hG6 hnr hm6 HW5 hb5 hb6 hr hR7 hMl hb7 hs5
  generalize hL : (⟨k, W3.heap.size, none, mb, nb, eb⟩ : DLay) = L at *
  obtain rfl : k = L.c := by rw [← hL]
  have hLp : W3.heap.size = L.pb := by rw [← hL]
  clear hL
  rw [← hMp, hLp]
  have HLP := hide hLp
  clear hLp hMp
  generalize hbase : w7.heap.size = base at *
  generalize DSt.new A B C D E = N at *
  have hG7 := hG3.below hT.kd.below hs3lt
  have hH7 : HoldQ5 w7 w.heap.size A B C D E w7 := ⟨⟨(hG7.cell 0).trans rfl, (hG7.cell 1).trans rfl, (hG7.cell 2).trans rfl, (hG7.cell 3).trans rfl, (hG7.cell 4).trans rfl⟩, hG7, Below.refl _ _⟩
  have hne := fun w => neGeo5 w A B C D E
  have hnp := fun w => nePow5 w ⟨L.pb, 0, none⟩
  go_wp2_with fail
  go_region_held3 (fun w' => (w'.cell? ⟨w.heap.size, 0, none⟩ = some (.int .i64 A) ∧ w'.cell? ⟨w.heap.size, 1, none⟩ = some (.int .i64 B) ∧ w'.cell? ⟨w.heap.size, 2, none⟩ = some (.int .i64 C) ∧ w'.cell? ⟨w.heap.size, 3, none⟩ = some (.int .i64 D) ∧ w'.cell? ⟨w.heap.size, 4, none⟩ = some (.int .i64 E)) ∧ (Blk w' w.heap.size (gcells A B C D E) 23 ∧ Below w7.heap.size w7 w'))
    (first
      | assumption
      | exact holdQ5_below hb41 (by assumption)
      | exact holdQ5_below hb42 (by assumption)
      | exact holdQ5_drew (by assumption)
      | fail)
    (first
      | (go_at_call 5; refine (awake5_any _).mono ?_; rintro e w41 ⟨rfl, hb41⟩)
      | (go_at_call 10; refine (Geometry5_any base _ L N 0 (TwoD.below' hT (And.right (And.right (by assumption : HoldQ5 w7 w.heap.size A B C D E _)))).kd.dev.chip).mono ?_; rintro e w42 ⟨rfl, hb42⟩; rw [hNg.1, hNg.2.1, hNg.2.2.1, hNg.2.2.2.1, hNg.2.2.2.2]; unfold gcells)
      | (go_at_call 11; refine (Power5_any base _ L N 0 (TwoD.below' hT (And.right (And.right (by assumption : HoldQ5 w7 w.heap.size A B C D E _)))).kd.dev.chip).mono ?_; rintro e w43 ⟨rfl, rfl⟩)
      | fail)
  have hT8 := TwoD.below' hT (And.right (And.right (by assumption : HoldQ5 w7 w.heap.size A B C D E _)))
  have hpw := hT8.kd.dev.pow
  have hszW : W3.heap.size ≤ base := hT8.kd.wb
  have hFl8 : IRow .i64 w43 (.slice fo flen fcap) fl := HFL.out.below (hB3.trans (hT8.kd.below.mono (by omega)))
  have hfo : fl ≠ [] → ∀ b off n cap, Value.slice fo flen fcap = .slice (some ⟨b, off, none⟩) n cap → b < W3.heap.size := fun h0 b off n cap e => by
    obtain ⟨b', off', cap', e', hlt, _⟩ := HFL.out.at (List.length_pos_iff.2 h0)
    rw [HF0.out] at e'
    rw [e] at e'
    cases e'
    omega
  have hfe := FailE_any w43 L.pb L.mo PSt.zero (.slice fo flen fcap) fl hpw hFl8 (by rw [HF0.out]; omega)
  have HNG := hide hNg
  clear hG7 hH7 hne hnp hpw hT hNg
  go_wp2_with fail
  refine hfe.mono ?_
  rintro e w9 ⟨rfl, q9, hq9, _, hp9, hg9⟩
  have hT9 := hT8.fail hq9 hp9 hg9
  have hFl9 : IRow .i64 w9 (.slice fo flen fcap) fl := HFL.out.below (hB3.trans (hT9.kd.below.mono (by omega)))
  have hT10 := hT9.which hFl9 hfo
  have g4 : w9.cell? ⟨M.pb, 4, none⟩ = some (.slice none 0 0) := (hT9.rd.pow.blk.cell 4).trans rfl
  have gf := hT9.rd.pow.blk.frozen 4
  clear hfe hT8 hp9 hg9 hq9 hFl8 hFl9 hT9
  go_upto_region 11 with fail
  generalize w9.setCell ⟨M.pb, 4, none⟩ (.slice fo flen fcap) = w10 at *
  clear g4 gf
  have hLc : ({ L with mo := some q9 } : DLay).c = L.c := rfl
  have hLpb : ({ L with mo := some q9 } : DLay).pb = L.pb := rfl
  generalize hL2 : ({ L with mo := some q9 } : DLay) = L2 at *
  rw [← hLc, ← hLpb]
  clear hLc hLpb hL2
  have HT10 := hide hT10
  clear hT10
  have HN0 := hide ok
  clear ok
  go_wp2_with fail
  go_loopw [13] (fun t wr => ∃ k : Nat, k ≤ len ∧ k ≤ 60 ∧ t = .int .i64 k ∧ ∃ (S : PSt) (N' : DSt) (m : Nat), S.Ok k ∧ N'.Ok k ∧ m ≤ k ∧ N.Like N' ∧ TwoD W3 base wr L2 M (.slice fo flen fcap) S N' m S N') (fun t _ => len - (intOf t).toNat)
  case atStart => exact ⟨0, Nat.zero_le _, Nat.zero_le _, rfl, { PSt.zero with fails := fl }, N, 0, ⟨(PSt.zero_ok5 0).1, (PSt.zero_ok5 0).2, (PSt.zero_ok5 0).3, (PSt.zero_ok5 0).4, (PSt.zero_ok5 0).5⟩, HN0.out, Nat.le_refl _, DSt.Like.refl _, HT10.out⟩
  case round =>
    obtain ⟨k, hk, hk2, rfl, S, N', m, hS, hN, hm, hNL, hTk⟩ := hrel
    have hBk := hB3.trans (hTk.kd.below.mono (by omega))
    clear HT10
    by_cases hlt : k < len ∧ k < 60
    · obtain ⟨hlt1, hlt2⟩ := hlt
      obtain ⟨bl, off, cap', hv, hbl, hcs⟩ := HS.out.at (by rw [HL0.out]; omega) (by intro x; simp [OpD.cells])
      obtain ⟨rfl, rfl⟩ : ao = some ⟨bl, off, none⟩ ∧ cap = cap' := by rw [HL0.out] at hv; simpa using hv
      obtain ⟨o, ho⟩ : ∃ o, ops[k]? = some o := ⟨_, List.getElem?_eq_getElem (by rw [HL0.out]; omega)⟩
      have hook := HOK.out o (List.mem_of_getElem? ho)
      have hc' : ∀ j u, o.cells[j]? = some u → wr.cell? ⟨bl, off + k * 7 + j, none⟩ = some u := fun j u hu => (hBk.cell (p := ⟨bl, off + k * 7 + j, none⟩) (by simp; omega)).trans (hcs k o ho j u hu)
      have d0 := hc' 0 _ rfl
      have d1 := hc' 1 _ rfl
      have d2 := hc' 2 _ rfl
      have d3 := hc' 3 _ rfl
      have d4 := hc' 4 _ rfl
      have d5 := hc' 5 _ rfl
      have d6 := hc' 6 _ rfl
      obtain ⟨kind, b, p, n, mask, dv, dd, sv, ss⟩ := o
      obtain ⟨q0, q1, q2, q3, q4, q5, q6⟩ := hook
      simp at d0 d1 d2 d3 d4 d5 d6 q0 q1 q2 q3 q4 q5 q6
      have hlt3 : (k : Int) < 60 := by omega
      clear hcs hc' ho hv
      have rd := q5.bytes
      have rs := q6.bytes
      obtain ⟨lo, lcap, rfl⟩ := rd.of_len
      obtain ⟨so, scap, rfl⟩ := rs.of_len
      have HRD := hide rd
      have HRS := hide rs
      have hlm2 := rd.len
      have hlm3 := rs.len
      unfold maxLen at hlm2 hlm3
      clear q5 q6 rd rs
      generalize hll : dd.length = ln at *
      generalize hls : ss.length = sn at *
      have HLL := hide hll
      have HLS := hide hls
      clear hll hls
      generalize hob : wr.heap.size = ob at *
      have hobb : base ≤ ob := hob ▸ hTk.kd.size
      have hT1 := hTk.alloc (.cells #[.int .i64 kind, .int .i64 b, .int .i64 p, .int .i64 n, .int .u8 mask, .slice lo ln lcap, .slice so sn scap] 45)
      have hO1 : Blk (wr.alloc (.cells #[.int .i64 kind, .int .i64 b, .int .i64 p, .int .i64 n, .int .u8 mask, .slice lo ln lcap, .slice so sn scap] 45)) ob #[.int .i64 kind, .int .i64 b, .int .i64 p, .int .i64 n, .int .u8 mask, .slice lo ln lcap, .slice so sn scap] 45 := hob ▸ Blk.new wr _ _
      have e0 : wr.cell? ⟨M.pb, 0, none⟩ = some (.bool S.off) := (hTk.rd.pow.blk.cell 0).trans rfl
      have hfarL : ob ∉ L2.all := by
        obtain ⟨f, hf, _⟩ := hTk.kd.dev.chip.pgs
        have hmb := hf.lt
        exact hTk.kd.far hobb (by omega)
      clear hTk hBk
      go_upto_block 2 with fail
      go_cut [15, 16, 17, 18, 19] (fun s15 s16 s17 s18 s19 wx => s15 = .bool true ∧ ∃ (S2 : PSt) (N2 : DSt) (m2 : Nat) (b2 p2 : Int) (u5 u6 : Value), TwoD W3 base wx L2 M (.slice fo flen fcap) S2 N2 m2 S2 N2 ∧ Blk wx ob #[.int .i64 kind, .int .i64 b2, .int .i64 p2, .int .i64 n, .int .u8 mask, u5, u6] 45 ∧ (Lit.int .i64 b2).wf = true ∧ (Lit.int .i64 p2).wf = true ∧ S2.Ok (k + 1) ∧ N2.Ok (k + 1) ∧ m2 ≤ k + 1 ∧ N.Like N2)
      case first =>
        refine (Classical.em (kind = 1)).elim (fun hk1 => ?k1) (fun hk1 => (Classical.em (kind = 2)).elim (fun hk2 => ?k2) (fun hk2 => (Classical.em (kind = 3)).elim (fun hk3 => ?k3) (fun hk3 => ?k4)))
        case k1 => as_aux_lemma =>
          subst hk1
          go_wp2_with fail
          generalize wr.alloc (.cells #[.int .i64 1, .int .i64 b, .int .i64 p, .int .i64 n, .int .u8 mask, .slice lo ln lcap, .slice so sn scap] 45) = W at *
          have b1 : W.cell? ⟨ob, 1, none⟩ = some (.int .i64 b) := (hO1.cell 1).trans rfl
          have hT1d := hT1.still (only_drewY W)
          have hO1d := hO1.only (only_drewY W) (by simp)
          go_region_held3 (fun w' => w'.cell? ⟨ob, 1, none⟩ = some (.int .i64 b) ∧ Blk w' ob #[.int .i64 1, .int .i64 b, .int .i64 p, .int .i64 n, .int .u8 mask, .slice lo ln lcap, .slice so sn scap] 45)
            (first
              | assumption
              | exact ⟨b1, hO1d⟩
              | exact holdE_T hO50 hfarL (by decide) (by assumption)
              | exact holdE_O hO51 (hT1d.farR hobb) (by assumption)
              | fail)
            (first
              | (go_at_call 13; refine (Erase5_any base _ L2 S N' m k (by exact hT1d.kd.dev) hS hN (by omega) b q1).mono ?_; rintro e w50 ⟨rfl, hD50, _, hO50⟩)
              | (go_at_call 14; refine (RErase5_any _ M (.slice fo flen fcap) S N' k (by exact (hT1d.turnLB hD50 hO50).rd) hS hN (by omega) b).mono ?_; rintro e w51 ⟨rfl, hD51, hO51⟩)
              | fail)
          have hT2 := (hT1d.turnLB hD50 hO50).turnR hD51 (eraseD_fails _ _ _) hO51
          have hOB : Blk w51 ob #[.int .i64 1, .int .i64 b, .int .i64 p, .int .i64 n, .int .u8 mask, .slice lo ln lcap, .slice so sn scap] 45 := And.right (by assumption : w51.cell? ⟨ob, 1, none⟩ = some (.int .i64 b) ∧ Blk w51 ob #[.int .i64 1, .int .i64 b, .int .i64 p, .int .i64 n, .int .u8 mask, .slice lo ln lcap, .slice so sn scap] 45)
          have hE := eraseD_ok (b := b) hS hN
          generalize eraseD S N' b = E at *
          obtain ⟨eE, S2, N2⟩ := E
          simp only at hT2 hE
          have hS2 : S2.Ok (k + 1) := hE.1
          have hN2 : N2.Ok (k + 1) := hE.2.1
          have hL2 := hNL.trans hE.2.2
          have hm2 : m ≤ k + 1 := by omega
          clear hE hT1 hT1d hO1 hO1d hD50 hO50 hD51 hO51 b1 d0 d1 d2 d3 d4 d5 d6 e0
          go_wp2
          go_meet
          exact ⟨rfl, S2, N2, m, b, p, _, _, hT2, hOB, q1, q2, hS2, hN2, hm2, hL2⟩
        case' k2 =>
          subst hk2
          have eW : (wr.alloc (.cells #[.int .i64 2, .int .i64 b, .int .i64 p, .int .i64 n, .int .u8 mask, .slice lo ln lcap, .slice so sn scap] 45)).cell? ⟨M.pb, 0, none⟩ = some (.bool S.off) := (hT1.rd.pow.blk.cell 0).trans rfl
          refine (Classical.em (S.off = true)).elim (fun hoff => ?k2a) (fun hoff => ?k2b)
        case k2a =>
          rw [hoff] at e0 eW
          go_wp2_with fail
          generalize wr.alloc (.cells #[.int .i64 2, .int .i64 b, .int .i64 p, .int .i64 n, .int .u8 mask, .slice lo ln lcap, .slice so sn scap] 45) = WZ at *
          have hS2 : S.Ok (k + 1) := hS.more (by omega)
          have hN2 : N'.Ok (k + 1) := hN.more (by omega)
          have hm2 : m ≤ k + 1 := by omega
          clear d0 d1 d2 d3 d4 d5 d6 e0 eW hoff
          go_wp2
          go_meet
          exact ⟨rfl, S, N', m, b, p, _, _, hT1, hO1, q1, q2, hS2, hN2, hm2, hNL⟩
        case k2b =>
          have hoff' : S.off = false := by simpa using hoff
          rw [hoff'] at e0 eW
          go_wp2_with fail
          generalize wr.alloc (.cells #[.int .i64 2, .int .i64 b, .int .i64 p, .int .i64 n, .int .u8 mask, .slice lo ln lcap, .slice so sn scap] 45) = W at *
          refine (CutE_any W L2.pb L2.mo S n mask hT1.kd.dev.pow).mono ?_
          rintro e wc ⟨rfl, hPc, hgc⟩
          have hTc := hT1.powL hPc hgc
          have hOc := hO1.only (only_grown (l := L2.all) hgc (fun k e => by cases e; simp [DLay.all])) hfarL
          have g2 : wc.cell? ⟨ob, 3, none⟩ = some (.int .i64 n) := (hOc.cell 3).trans rfl
          have g3 : wc.cell? ⟨ob, 4, none⟩ = some (.int .u8 mask) := (hOc.cell 4).trans rfl
          clear hPc hgc d0 d1 d2 d3 d4 d5 d6 e0 eW
          go_wp2_with fail
          refine (RCutX_any wc M.pb (.slice fo flen fcap) S n mask hTc.rd.pow).mono ?_
          rintro e WZ ⟨rfl, hPx, hgx⟩
          have hT2 := hTc.powR hPx rfl hgx
          have hO2 := hOc.only (only_grown (l := M.all) hgx (fun k e => by cases e; simp [RLy.all])) (hTc.farR hobb)
          have hS2 : (S.cut n mask).Ok (k + 1) := (hS.cut q3 q4).more (by omega)
          generalize S.cut n mask = S2 at *
          have hN2 : N'.Ok (k + 1) := hN.more (by omega)
          have hm2 : m ≤ k + 1 := by omega
          clear hT1 hO1 hTc hOc g2 g3 hPx hgx hoff hoff'
          go_wp2
          go_meet
          exact ⟨rfl, S2, N', m, b, p, _, _, hT2, hO2, q1, q2, hS2, hN2, hm2, hNL⟩
        case k3 => as_aux_lemma =>
          subst hk3
          go_wp2_with fail
          generalize wr.alloc (.cells #[.int .i64 3, .int .i64 b, .int .i64 p, .int .i64 n, .int .u8 mask, .slice lo ln lcap, .slice so sn scap] 45) = W at *
          refine (OnE_any W L2.pb L2.mo S hT1.kd.dev.pow).mono ?_
          rintro e wc ⟨rfl, hPc, hgc⟩
          have hTc := hT1.powL hPc hgc
          have hOc := hO1.only (only_grown (l := L2.all) hgc (fun k e => by cases e; simp [DLay.all])) hfarL
          clear hPc hgc d0 d1 d2 d3 d4 d5 d6 e0
          go_wp2_with fail
          refine (ROnX_any wc M.pb (.slice fo flen fcap) S hTc.rd.pow).mono ?_
          rintro e WZ ⟨rfl, hPx, hgx⟩
          have hT2 := hTc.powR hPx rfl hgx
          have hO2 := hOc.only (only_grown (l := M.all) hgx (fun k e => by cases e; simp [RLy.all])) (hTc.farR hobb)
          have hS2 : S.on.Ok (k + 1) := hS.on.more (by omega)
          generalize S.on = S2 at *
          have hN2 : N'.Ok (k + 1) := hN.more (by omega)
          have hm2 : m ≤ k + 1 := by omega
          clear hT1 hO1 hTc hOc hPx hgx
          go_wp2
          go_meet
          exact ⟨rfl, S2, N', m, b, p, _, _, hT2, hO2, q1, q2, hS2, hN2, hm2, hNL⟩
        case' k4 =>
          have hBT := hB3.trans (hT1.kd.below.mono (by omega))
          refine (Classical.em ((300 : Int) < ln)).elim (fun hbig => ?k4a) (fun hbig => (Classical.em ((100 : Int) < sn)).elim (fun hbig2 => ?k4b) (fun hbig2 => ?k4c))
        case k4a =>
          go_wp2
          go_ret
          exact ⟨rfl, hBT⟩
        case k4b =>
          go_wp2
          go_ret
          exact ⟨rfl, hBT⟩
        case k4c =>
          have hln : ln ≤ 300 := by omega
          have hsn : sn ≤ 100 := by omega
          go_wp2_with fail
          generalize wr.alloc (.cells #[.int .i64 kind, .int .i64 b, .int .i64 p, .int .i64 n, .int .u8 mask, .slice lo ln lcap, .slice so sn scap] 45) = W at *
          have z0 : W.cell? ⟨ob, 0, none⟩ = some (.int .i64 kind) := (hO1.cell 0).trans rfl
          have z5 : W.cell? ⟨ob, 5, none⟩ = some (.slice lo ln lcap) := (hO1.cell 5).trans rfl
          have z6 : W.cell? ⟨ob, 6, none⟩ = some (.slice so sn scap) := (hO1.cell 6).trans rfl
          have hT2 := hT1.still (only_drewY W)
          have hO2 := hO1.only (only_drewY W) (by simp)
          go_region
          go_upto_if 108 with fail
          generalize W.drew = W2 at *
          have hBW := hB3.trans (hT2.kd.below.mono (by omega))
          have hd2 := HRD.out.below hBW
          have hs2 := HRS.out.below hBW
          have HFD := hide (show 0 < dd.length → ∀ b off n cap, Value.slice lo ln lcap = .slice (some ⟨b, off, none⟩) n cap → b ∉ M.all ∧ b ∉ L2.all from fun h0 b off n cap e => by
            obtain ⟨b', off', cap', e', _, hlt, _⟩ := HRD.out.at (List.length_pos_iff.1 h0)
            rw [e] at e'
            cases e'
            exact hT2.farO (by omega))
          have HFS := hide (show 0 < ss.length → ∀ b off n cap, Value.slice so sn scap = .slice (some ⟨b, off, none⟩) n cap → b ∉ M.all ∧ b ∉ L2.all from fun h0 b off n cap e => by
            obtain ⟨b', off', cap', e', _, hlt, _⟩ := HRS.out.at (List.length_pos_iff.1 h0)
            rw [e] at e'
            cases e'
            exact hT2.farO (by omega))
          have HD2 := hide hd2
          have HS2 := hide hs2
          clear hT1 hO1 d0 d1 d2 d3 d4 d5 d6 e0 z0 z5 z6 hBT hBW hd2 hs2
          go_cut [16, 17] (fun s16 s17 wx => ∃ (b2 p2 : Int) (d' s' : List Int), Row wx s16 d' ∧ Row wx s17 s' ∧ d'.length ≤ 100000 ∧ s'.length ≤ 100000 ∧
            (0 < d'.length → ∀ b off n cap, s16 = .slice (some ⟨b, off, none⟩) n cap → b ∉ M.all ∧ b ∉ L2.all) ∧ (0 < s'.length → ∀ b off n cap, s17 = .slice (some ⟨b, off, none⟩) n cap → b ∉ M.all ∧ b ∉ L2.all) ∧
            TwoD W3 base wx L2 M (.slice fo flen fcap) S N' m S N' ∧ Blk wx ob #[.int .i64 kind, .int .i64 b2, .int .i64 p2, .int .i64 n, .int .u8 mask, .slice lo ln lcap, .slice so sn scap] 45 ∧ (Lit.int .i64 b2).wf = true ∧ (Lit.int .i64 p2).wf = true)
          case first =>
            by_cases h4 : kind = 4
            · subst h4
              have hCC : N'.C = C := (hNL.2.2.1).trans HNG.out.2.2.1
              have hEE : N'.E = E := (hNL.2.2.2.2).trans HNG.out.2.2.2.2
              have hC0 := hN.C0
              have hC1 := hN.C1
              have hE0 := hN.E0
              have hE1 := hN.E1
              have hnl := hN.nl
              rw [hCC] at hC0 hC1 hnl
              rw [hEE] at hE0 hE1
              have hG2 := hG3.below hT2.kd.below hs3lt
              have gC : W2.cell? ⟨w.heap.size, 2, none⟩ = some (.int .i64 C) := (hG2.cell 2).trans rfl
              have gE : W2.cell? ⟨w.heap.size, 4, none⟩ = some (.int .i64 E) := (hG2.cell 4).trans rfl
              obtain ⟨B2, hB2, eB⟩ := cut_n b C (by omega) (by omega)
              have hB2' : (B2 : Int) < C := by omega
              have uC : IntKind.u64.wrap (C : Int) = (C : Int) := by rw [IntKind.wrap_u64]; omega
              have hCz : ¬ (C : Int) = 0 := by omega
              have b0 : W2.cell? ⟨ob, 0, none⟩ = some (.int .i64 4) := (hO2.cell 0).trans rfl
              have b1 : W2.cell? ⟨ob, 1, none⟩ = some (.int .i64 b) := (hO2.cell 1).trans rfl
              have bf1 := hO2.frozen 1
              have hwb : w.heap.size ≠ ob := by have := hT2.kd.wb; omega
              have hO3 := hO2.set 1 (.int .i64 (B2 : Int))
              have hon1 : Only [ob] W2 (W2.setCell ⟨ob, 1, none⟩ (.int .i64 (B2 : Int))) := only_grown (grown_setCell W2 ob 1 _) (fun k e => by cases e; simp)
              have hT3 := hT2.op hO2 (by decide) hobb hon1
              have hd3 := HD2.out.onlyN hon1 (fun h0 b off n cap e hm => by
                obtain ⟨b', off', cap', e', _, hlt, _⟩ := HRD.out.at (List.length_pos_iff.1 h0)
                rw [e] at e'
                cases e'
                simp at hm
                have := hT2.kd.wb
                omega)
              have hs3 := HS2.out.onlyN hon1 (fun h0 b off n cap e hm => by
                obtain ⟨b', off', cap', e', _, hlt, _⟩ := HRS.out.at (List.length_pos_iff.1 h0)
                rw [e] at e'
                cases e'
                simp at hm
                have := hT2.kd.wb
                omega)
              have gE3 := cell_onlyD hon1 (by simpa using hwb) gE
              clear hT2 hO2 HD2 HS2 HFD HFS hon1 gE hG2
              try simp only [eB]
              go_wp2_with fail
              try simp only [eB]
              have hnx := hN.nxAt (i := B2) (by rw [hCC]; exact hB2)
              have hcX : (W2.setCell ⟨ob, 1, none⟩ (.int .i64 (B2 : Int))).cell? ⟨M.nb, B2, none⟩ = some (.int .i64 (N'.nx.getD B2 0)) := by
                rw [hT3.rd.chip.nxt.cell B2, List.getElem?_toArray, iv_at (by omega)]
              have hc7 : (W2.setCell ⟨ob, 1, none⟩ (.int .i64 (B2 : Int))).cell? ⟨M.c, 7, none⟩ = some (.slice (some ⟨M.nb, 0, none⟩) N'.C N'.C) := (hT3.rd.chip.blk.cell 7).trans rfl
              rw [hCC] at hc7
              have hc1 : (W2.setCell ⟨ob, 1, none⟩ (.int .i64 (B2 : Int))).cell? ⟨ob, 1, none⟩ = some (.int .i64 (B2 : Int)) := (hO3.cell 1).trans rfl
              generalize N'.nx.getD B2 0 = X at *
              generalize W2.setCell ⟨ob, 1, none⟩ (.int .i64 (B2 : Int)) = W4 at *
              have hDD := hN.D1
              have hwX : (Lit.int .i64 X).wf = true := wf_i64 (by omega) (by omega)
              have hwB : (Lit.int .i64 (B2 : Int)).wf = true := wf_i64 (by omega) (by omega)
              obtain ⟨lc1, lc2, lc3, lc4, lc5⟩ := hT3.lt
              have ncb : M.c ≠ ob := by omega
              have nnb : M.nb ≠ ob := by omega
              have hTd := hT3.still (only_drewY W4)
              have hOd := hO3.only (only_drewY W4) (by simp)
              have hob4 := hOd.lt
              have hmb4 : L2.mb < W4.drew.heap.size := by
                obtain ⟨f, hf, _⟩ := hTd.kd.dev.chip.pgs
                exact hf.lt
              have hdd := hd3.onlyN (only_drewY W4) (fun _ _ _ _ _ _ => by simp)
              have hsd := hs3.onlyN (only_drewY W4) (fun _ _ _ _ _ _ => by simp)
              have HB0 := hide (show HoldF M.c M.nb B2 ob w.heap.size (.slice (some ⟨M.nb, 0, none⟩) C C) X B2 E W4 W4.drew from ⟨⟨hc7, hcX, hc1, gE3⟩, (only_drewY W4).wide (by simp), Nat.le_refl _⟩)
              have HF1 := hide (fit5_any W4.drew (.slice lo ln lcap) dd E hdd (by omega) (by omega))
              have HF2 := hide (fun (w50 : World) (hb : Below W4.drew.heap.size W4.drew w50) => (show Calls Try.prog 19 #[.slice so sn scap, .int .i64 16] w50 _ from fit5_any w50 (.slice so sn scap) ss 16 (hsd.below hb) (by omega) (by omega)))
              have HTD := hide hTd
              have HOD := hide hOd
              have hsz4 : W4.drew.heap.size = W4.heap.size := rfl
              clear hT3 hO3 hd3 hs3 hc7 hcX hc1 gE3 hTd hOd hdd hsd gC b0 b1 bf1 hnx
              go_region_held3 (fun w' => (w'.cell? ⟨M.c, 7, none⟩ = some (.slice (some ⟨M.nb, 0, none⟩) C C) ∧ w'.cell? ⟨M.nb, B2, none⟩ = some (.int .i64 X) ∧ w'.cell? ⟨ob, 1, none⟩ = some (.int .i64 B2) ∧ w'.cell? ⟨w.heap.size, 4, none⟩ = some (.int .i64 E)) ∧ Only [ob] W4 w' ∧ W4.heap.size ≤ w'.heap.size)
                (first
                  | assumption
                  | exact HB0.out
                  | exact HoldF.below hb51 (by assumption)
                  | exact HoldF.below hb50 (by assumption)
                  | exact HoldF.set _ ncb nnb hwb (by assumption)
                  | fail)
                (first
                  | (go_at_call 19; refine Calls.mono (HF2.out w50 hb50) ?_; rintro e w51 ⟨g51, hg51, rfl, ho51, hb51⟩; have hO51 := (HOD.out.below hb50 hob4).below hb51 (Nat.lt_of_lt_of_le hob4 hb50.size); have q2 : w51.cell? ⟨ob, 2, none⟩ = some (.int .i64 p) := (hO51.cell 2).trans rfl; have qf := hO51.frozen 2)
                  | (go_at_call 19; refine Calls.mono HF1.out ?_; rintro e w50 ⟨g50, hg50, rfl, ho50, hb50⟩)
                  | fail)
              have hon2 : Only [ob] w51 (w51.setCell ⟨ob, 2, none⟩ (.int .i64 X)) := only_grown (grown_setCell w51 ob 2 _) (fun k e => by cases e; simp)
              have hT5 := ((HTD.out.below' hb50).below' hb51).op hO51 (by decide) hobb hon2
              have hO5 := hO51.set 2 (.int .i64 X)
              have hs50 := hb50.size
              have hrw1 := (ho50.row.below hb51).onlyN hon2 (fun _ b off n cap e hm => by cases e; simp at hm; omega)
              have hrw2 := ho51.row.onlyN hon2 (fun _ b off n cap e hm => by cases e; simp at hm; omega)
              have HT5 := hide hT5
              have HO5 := hide hO5
              have HR1 := hide hrw1
              have HR2 := hide hrw2
              clear hT5 hO5 hrw1 hrw2 ho50 ho51 q2 qf hb51 HTD HOD HB0 HF1 HF2 hon2 hO51
              go_wp2_with fail
              go_meet
              exact ⟨(B2 : Int), X, fitS dd E, fitS ss 16, HR1.out, HR2.out, by rw [fitS_length]; omega, by rw [fitS_length]; omega,
                fun _ b off n cap e => by cases e; exact ⟨HT5.out.farR (by omega), HT5.out.kd.far (by omega) (by omega)⟩,
                fun _ b off n cap e => by cases e; exact ⟨HT5.out.farR (by omega), HT5.out.kd.far (by omega) (by omega)⟩, HT5.out, HO5.out, hwB, hwX⟩
            · have h4b : (kind == 4) = false := by simpa using h4
              go_wp2_with fail
              go_meet
              exact ⟨b, p, dd, ss, HD2.out, HS2.out, by rw [HLL.out]; omega, by rw [HLS.out]; omega, HFD.out, HFS.out, hT2, hO2, q1, q2⟩
          case rest => as_aux_lemma =>
            clear hT2 hO2 HD2 HS2 HFD HFS
            obtain ⟨b2, p2, d', s', hd, hs, hdl, hsl, hdf, hsf, hT3, hO3, y1, y2⟩ := hcut
            have HDF := hide hdf
            have HSF := hide hsf
            clear hdf hsf
            try go_wp2_with fail
            refine (Own_any _ _ d' 71 hd (by omega)).mono ?_
            rintro e w23 ⟨rfl, ho23, hb23⟩
            have hgd1 : base ≤ wc.heap.size := hT3.kd.size
            have hgd2 : wc.heap.size ∉ L2.all := by
              obtain ⟨f, hf, _⟩ := hT3.kd.dev.chip.pgs
              have hmb := hf.lt
              exact hT3.kd.far hgd1 (by omega)
            have hgdo : wc.heap.size ≠ ob := by have := hO3.lt; omega
            have hT23 := hT3.below' hb23
            have hO23 := hO3.below hb23 hO3.lt
            have hd23 := hd.below hb23
            have hs23 := hs.below hb23
            clear hb23 hT3 hO3 hd hs
            generalize wc.heap.size = gd at *
            have HO23 := hide ho23
            clear ho23
            go_wp2_with fail
            refine (Own_any w23 _ s' 71 hs23 (by omega)).mono ?_
            rintro e w24 ⟨rfl, ho24, hb24⟩
            have hgs1 : base ≤ w23.heap.size := hT23.kd.size
            have hgs2 : w23.heap.size ∉ L2.all := by
              obtain ⟨f, hf, _⟩ := hT23.kd.dev.chip.pgs
              have hmb := hf.lt
              exact hT23.kd.far hgs1 (by omega)
            have hT24 := hT23.below' hb24
            have hO24 := hO23.below hb24 hO23.lt
            have hd24 := hd23.below hb24
            have hs24 := hs23.below hb24
            have hoD := HO23.out.kept (row := none) ⟨hb24.os, hb24.tape, hb24.output, hb24.size, fun k hk _ => hb24.block k hk⟩ (Classical.em _)
            clear hb24 hT23 hO23 hd23 hs23 HO23
            generalize w23.heap.size = gs at *
            have hTd := hT24.still (only_drewY w24)
            have hOd := hO24.only (only_drewY w24) (by simp)
            have hdd := hd24.onlyN (only_drewY w24) (fun _ _ _ _ _ _ => by simp)
            have hsd := hs24.onlyN (only_drewY w24) (fun _ _ _ _ _ _ => by simp)
            have hoDd := ownsRow_only5 hoD (only_drewY w24) (by simp)
            have hoSd := ownsRow_only5 ho24 (only_drewY w24) (by simp)
            clear hT24 hO24 hd24 hs24 hoD ho24
            have hin := own_row5 hdd.bys hoDd
            have hon := own_row5 hsd.bys hoSd
            have hgdn : gd ∉ M.all := hTd.farR hgd1
            have hgsn : gs ∉ M.all := hTd.farR hgs1
            have hA3 : ∀ x ∈ [L2.pb, L2.mb, L2.nb], x ∈ L2.all := by intro x hx; simp at hx; simp [DLay.all]; omega
            have hob3 : ob ∉ [L2.pb, L2.mb, L2.nb] := fun hm => hfarL (hA3 _ hm)
            have hobR : ob ∉ M.all := hTd.farR hobb
            have hP := Program5_any base w24.drew L2 S N' m k hTd.kd.dev hS hN (by omega) (by omega) hTd.kd.size b2 p2 y1 y2 _ _ d' s' hin hon (fun _ g off n cap e => by cases e; intro e2; exact hgd2 (by simp [DLay.all, e2])) (fun _ g off n cap e => by cases e; intro e2; exact hgs2 (by simp [DLay.all, e2]))
            have hOk := progD_ok (b := b2) (p := p2) hS hN hdd.bys hsd.bys
            have hfl2 := progD_fails S N' b2 p2 d' s'
            have hR := fun (w50 : World) (hD : NDev base w50 L2 (progD S N' b2 p2 d' s').2.1 (progD S N' b2 p2 d' s').2.2 (m + 1)) (hO : Only [L2.pb, L2.mb, L2.nb] w24.drew w50) =>
              RProgram5_any w50 M (.slice fo flen fcap) S N' k ((hTd.turnL hD (hO.wide hA3)).rd) hS hN (by omega) b2 p2 _ _ d' s' (hdd.onlyN hO (fun h0 b off n cap e hm => (HDF.out h0 b off n cap e).2 (hA3 b hm))) (hsd.onlyN hO (fun h0 b off n cap e hm => (HSF.out h0 b off n cap e).2 (hA3 b hm))) (fun h0 b off n cap e => (HDF.out h0 b off n cap e).1) (fun h0 b off n cap e => (HSF.out h0 b off n cap e).1)
            have hK1 := fun (w50 w51 : World) (hO : Only [L2.pb, L2.mb, L2.nb] w24.drew w50) (hO2 : Only M.all w50 w51) =>
              Kept_any w51 gd _ _ d' 71 (by omega) ((hdd.onlyN hO (fun h0 b off n cap e hm => (HDF.out h0 b off n cap e).2 (hA3 b hm))).onlyN hO2 (fun h0 b off n cap e => (HDF.out h0 b off n cap e).1)) (by omega) (ownsRow_only5 (ownsRow_only5 hoDd hO (fun hm => hgd2 (hA3 _ hm))) hO2 hgdn)
            have hK2 := fun (w50 w51 w52 : World) (hO : Only [L2.pb, L2.mb, L2.nb] w24.drew w50) (hO2 : Only M.all w50 w51) (hst : Still w51 w52) =>
              Kept_any w52 gs _ _ s' 71 (by omega) (((hsd.onlyN hO (fun h0 b off n cap e hm => (HSF.out h0 b off n cap e).2 (hA3 b hm))).onlyN hO2 (fun h0 b off n cap e => (HSF.out h0 b off n cap e).1)).below (hst _)) (by omega) (ownsRow_only5 (ownsRow_only5 (ownsRow_only5 hoSd hO (fun hm => hgs2 (hA3 _ hm))) hO2 hgsn) (only_below (hst _) : Only [] w51 w52) (by simp))
            generalize progD S N' b2 p2 d' s' = E at *
            obtain ⟨eE, S2, N2⟩ := E
            simp only at hP hR hOk hfl2
            have HP := hide hP
            have HR := hide hR
            have HK1 := hide hK1
            have HK2 := hide hK2
            have HTD := hide hTd
            have HB := hide (HoldP.of (u := .int .i64 b2) (v := .int .i64 p2) hOd rfl rfl)
            clear hP hR hK1 hK2 hTd hOd hdd hsd hoDd hoSd hin hon
            generalize d'.length = dl at *
            generalize s'.length = sl at *
            go_wp2_with fail
            go_region_held3 (fun w' => (w'.cell? ⟨ob, 1, none⟩ = some (.int .i64 b2) ∧ w'.cell? ⟨ob, 2, none⟩ = some (.int .i64 p2)) ∧ Blk w' ob #[.int .i64 kind, .int .i64 b2, .int .i64 p2, .int .i64 n, .int .u8 mask, .slice lo ln lcap, .slice so sn scap] 45)
              (first
                | assumption
                | exact HB.out
                | exact HoldP.only hO50 hob3 (by assumption)
                | exact HoldP.only hO51 hobR (by assumption)
                | exact HoldP.still hst52 (by assumption)
                | exact HoldP.still hst53 (by assumption)
                | fail)
              (first
                | (go_at_call 21; refine Calls.mono HP.out ?_; rintro e w50 ⟨rfl, hD50, hO50⟩)
                | (go_at_call 22; refine Calls.mono (HR.out w50 hD50 hO50) ?_; rintro e w51 ⟨rfl, hD51, hO51⟩)
                | (go_at_call 23; refine Calls.mono (HK2.out w50 w51 w52 hO50 hO51 hst52) ?_; rintro e w53 ⟨rfl, hst53⟩)
                | (go_at_call 23; refine Calls.mono (HK1.out w50 w51 hO50 hO51) ?_; rintro e w52 ⟨rfl, hst52⟩)
                | fail)
            have hT4 := (((HTD.out.turnL hD50 (hO50.wide hA3)).turnR hD51 hfl2 hO51).below' (hst52 _)).below' (hst53 _)
            have hX : (w53.cell? ⟨ob, 1, none⟩ = some (.int .i64 b2) ∧ w53.cell? ⟨ob, 2, none⟩ = some (.int .i64 p2)) ∧ Blk w53 ob #[.int .i64 kind, .int .i64 b2, .int .i64 p2, .int .i64 n, .int .u8 mask, .slice lo ln lcap, .slice so sn scap] 45 := by assumption
            have hOB := hX.2
            have hS2 : S2.Ok (k + 1) := hOk.1
            have hN2 : N2.Ok (k + 1) := hOk.2.1
            have hL2 := hNL.trans hOk.2.2
            have hm2 : m + 1 ≤ k + 1 := by omega
            clear HP HR HK1 HK2 HTD HB hD50 hO50 hD51 hO51 hst52 hst53 hX hOk
            go_wp2
            go_meet
            exact ⟨rfl, S2, N2, m + 1, b2, p2, _, _, hT4, hOB, y1, y2, hS2, hN2, hm2, hL2⟩
      case rest => as_aux_lemma =>
        clear hT1 hO1 d0 d1 d2 d3 d4 d5 d6 e0
        obtain ⟨rfl, S2, N2, m2, b2, p2, u5, u6, hT2, hO2, y1, y2, hS2, hN2, hm2, hL2⟩ := hcut
        have c1 : wc.cell? ⟨ob, 1, none⟩ = some (.int .i64 b2) := (hO2.cell 1).trans rfl
        have c2 : wc.cell? ⟨ob, 2, none⟩ = some (.int .i64 p2) := (hO2.cell 2).trans rfl
        have hrd := Read5_any base wc L2 N2 m2 (k + 1) hT2.kd.dev.chip hN2 b2 p2 y1 y2
        have hrr := fun w' (hc : RChip w' M N2) => RRead5_any w' M N2 (k + 1) hc hN2 b2 p2
        generalize readD N2 b2 p2 = RD at *
        obtain ⟨re, ra, rb⟩ := RD
        simp only at hrd hrr
        try go_wp2_with fail
        refine hrd.mono ?_
        rintro e w20 ⟨ua, ub, rfl, hua, hub, hb20⟩
        have hT3 := hT2.below' hb20
        have hO3 := hO2.below hb20 hO2.lt
        have hua3 := hua.row
        have hub3 := hub.row
        obtain ⟨xo, xcap, rfl⟩ := hua3.of_len
        obtain ⟨zo, zcap, rfl⟩ := hub3.of_len
        have hrr3 := hrr w20 hT3.rd.chip
        have f1 : w20.cell? ⟨ob, 1, none⟩ = some (.int .i64 b2) := (hO3.cell 1).trans rfl
        have f2 : w20.cell? ⟨ob, 2, none⟩ = some (.int .i64 p2) := (hO3.cell 2).trans rfl
        clear hrd hrr hua hub hb20 hT2 hO2 c1 c2
        go_wp2_with fail
        refine hrr3.mono ?_
        rintro e w21 ⟨va, vb, rfl, hva, hvb, hb21⟩
        have hT4 := hT3.below' hb21
        have hO4 := hO3.below hb21 hO3.lt
        have hua4 := hua3.below hb21
        have hub4 := hub3.below hb21
        have hva4 := hva.row
        have hvb4 := hvb.row
        obtain ⟨yo, ycap, rfl⟩ := hva4.of_len
        obtain ⟨vo, tcap, rfl⟩ := hvb4.of_len
        have g1 : w21.cell? ⟨ob, 1, none⟩ = some (.int .i64 b2) := (hO4.cell 1).trans rfl
        have cst : w21.cell? ⟨M.pb, 3, none⟩ = some (.int .i64 S2.steps) := (hT4.rd.pow.blk.cell 3).trans rfl
        clear hrr3 hva hvb hb21 hT3 hO3 hua3 hub3 f1 f2
        have hfin : ∀ j, TwoD W3 base (w21.drewN j) L2 M (.slice fo flen fcap) S2 N2 m2 S2 N2 := fun j => hT4.still (only_drewNY _ _)
        have qa : ∀ j, Calls Try.prog 26 #[.slice xo ra.length xcap, .slice yo ra.length ycap] (w21.drewN j) fun e w' => e = .returned (.bool true) ∧ w' = w21.drewN j := by
          intro j
          have hq := Bytes_any _ _ _ _ _ (hua4.below (below_drewN w21 j)) (hva4.below (below_drewN w21 j))
          rwa [decide_eq_true rfl] at hq
        have qb : ∀ j, Calls Try.prog 26 #[.slice zo rb.length zcap, .slice vo rb.length tcap] (w21.drewN j) fun e w' => e = .returned (.bool true) ∧ w' = w21.drewN j := by
          intro j
          have hq := Bytes_any _ _ _ _ _ (hub4.below (below_drewN w21 j)) (hvb4.below (below_drewN w21 j))
          rwa [decide_eq_true rfl] at hq
        have qc := fun j => Programmed_any base (w21.drewN j) L2 N2 m2 (k + 1) (hfin j).kd.dev.chip hN2 b2 y1
        have qd := fun j => RProgrammed_any (w21.drewN j) M N2 (k + 1) (hfin j).rd.chip hN2 b2
        have qe := fun j => Erases5_any base (w21.drewN j) L2 N2 m2 (k + 1) (hfin j).kd.dev.chip hN2 b2 y1
        have qf := fun j => RErases_any (w21.drewN j) M N2 (k + 1) (hfin j).rd.chip hN2 b2
        have qg := fun j => StepsE_any (w21.drewN j) L2.pb L2.mo S2 (hfin j).kd.dev.pow
        generalize nextD N2 b2 = ev at qc qd
        generalize countD N2 b2 = ew at qe qf
        have HQA := hide qa
        have HQB := hide qb
        have HQC := hide qc
        have HQD := hide qd
        have HQE := hide qe
        have HQF := hide qf
        have HQG := hide qg
        have HFIN := hide hfin
        generalize ra.length = al at *
        generalize rb.length = bl2 at *
        clear qa qb qc qd qe qf qg hfin hT4 hO4 hua4 hub4 hva4 hvb4
        go_wp2_with fail
        go_quiet (first
          | (go_at_call_of 26 (Value.slice xo al xcap); exact Calls.quiet_of_same (HQA.out _))
          | (go_at_call_of 26 (Value.slice zo bl2 zcap); exact Calls.quiet_of_same (HQB.out _))
          | (go_at_call 27; exact Calls.quiet_of_same (HQC.out _))
          | (go_at_call 28; exact Calls.quiet_of_same (HQD.out _))
          | (go_at_call 29; exact Calls.quiet_of_same (HQE.out _))
          | (go_at_call 30; exact Calls.quiet_of_same (HQF.out _))
          | (go_at_call 31; exact Calls.quiet_of_same (HQG.out _)))
        go_wp2
        exact ⟨⟨k + 1, by omega, by omega, by go_num, S2, N2, m2, hS2, hN2, hm2, hL2, HFIN.out _⟩, by simp [intOf]; omega⟩
    · by_cases hl2 : (k : Int) < len
      · have hk3 : ¬ ((k : Int) < 60) := by omega
        go_wp2
        go_ret
        exact ⟨rfl, hBk⟩
      · go_wp2
        go_ret
        exact ⟨rfl, hBk⟩
end Go.Proofs.Ythiehpofmlbehaa
