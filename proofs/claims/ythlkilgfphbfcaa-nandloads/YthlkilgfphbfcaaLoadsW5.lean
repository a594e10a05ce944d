/-
  The walk of garretlaw05.NandLoads.
-/
import Derived.Test.YthlkilgfphbfcaaStaysP5
import Derived.Test.YthlkilgfphbfcaaLoadsP5
import Derived.BigQuiet
import Derived.Deep.QuietTactic
namespace Go.Proofs.Ythlkilgfphbfcaa
open Go.RowKit
set_option linter.unusedVariables false
set_option maxRecDepth 100000

theorem RNewB_any (w : World) : Calls Try.prog 10 #[] w fun e w' => e = .returned (.pointer (some ⟨w.heap.size, 0, none⟩)) ∧ Below w.heap.size w w' ∧ w.heap.size < w'.heap.size :=
  (RNew_any w).mono (by rintro e w' ⟨rfl, rfl⟩; exact ⟨rfl, (Below.refl _ _).alloc (Nat.le_refl _) _, by simp⟩)

theorem only_cell {l : List Nat} {w w' : World} {b o : Nat} {u : Value} (h : Only l w w') (hn : b ∉ l) (hc : w.cell? ⟨b, o, none⟩ = some u) : w'.cell? ⟨b, o, none⟩ = some u :=
  (World.cell?_of_block (h.block b (World.block_lt_of_cell? w _ hc) hn)).trans hc
theorem hold2_only5 {l : List Nat} {W w w' : World} {a b a' b' : Nat} {u v : Value} (hO : Only l w w') (h1 : a ∉ l) (h2 : a' ∉ l) (h : (w.cell? ⟨a, b, none⟩ = some u ∧ w.cell? ⟨a', b', none⟩ = some v) ∧ Only l W w) : (w'.cell? ⟨a, b, none⟩ = some u ∧ w'.cell? ⟨a', b', none⟩ = some v) ∧ Only l W w' :=
  ⟨⟨only_cell hO h1 h.1.1, only_cell hO h2 h.1.2⟩, h.2.trans hO⟩
theorem hold3_only5 {l : List Nat} {W w w' : World} {a b a' b' a2 b2 : Nat} {u v x : Value} (hO : Only l w w') (h1 : a ∉ l) (h2 : a' ∉ l) (h3 : a2 ∉ l) (h : (w.cell? ⟨a, b, none⟩ = some u ∧ w.cell? ⟨a', b', none⟩ = some v ∧ w.cell? ⟨a2, b2, none⟩ = some x) ∧ Only l W w) : (w'.cell? ⟨a, b, none⟩ = some u ∧ w'.cell? ⟨a', b', none⟩ = some v ∧ w'.cell? ⟨a2, b2, none⟩ = some x) ∧ Only l W w' :=
  ⟨⟨only_cell hO h1 h.1.1, only_cell hO h2 h.1.2.1, only_cell hO h3 h.1.2.2⟩, h.2.trans hO⟩
theorem hold3_below5 {B : Nat} {W w w' : World} {a b a' b' a2 b2 : Nat} {u v x : Value} (hs : Below B w w') (h1 : a < B) (h2 : a' < B) (h3 : a2 < B) (h : (w.cell? ⟨a, b, none⟩ = some u ∧ w.cell? ⟨a', b', none⟩ = some v ∧ w.cell? ⟨a2, b2, none⟩ = some x) ∧ Below B W w) : (w'.cell? ⟨a, b, none⟩ = some u ∧ w'.cell? ⟨a', b', none⟩ = some v ∧ w'.cell? ⟨a2, b2, none⟩ = some x) ∧ Below B W w' :=
  ⟨⟨(hs.cell h1).trans h.1.1, (hs.cell h2).trans h.1.2.1, (hs.cell h3).trans h.1.2.2⟩, h.2.trans hs⟩
theorem only_drew9 (w : World) : Only [] w w.drew := only_grown (grown_drew w none) (by simp)
theorem wfNat5 {n : Nat} (h : n < 1000000) : (Lit.int .i64 (n : Int)).wf = true := wf_i64 (by omega) (by omega)
/-- Of a chip of which nothing is programmed no page is anywhere. -/
theorem NDev.raise {base base' m : Nat} {w : World} {L : DLay} {S : PSt} {N : DSt} (h : NDev base w L S N m) (hz : ∀ i, i < N.C → N.nx.getD i 0 = 0) (hb : base ≤ base') : NDev base' w L S N m := by
  obtain ⟨f, hf, hp⟩ := h.chip.pgs
  have hlt := h.chip.lt
  refine ⟨h.pow, ⟨h.chip.blk, h.chip.nxt, h.chip.ers, ⟨f, hf, ⟨fun i k v hi hk hv => ?_, hp.non, hp.inj⟩⟩, by omega, h.chip.ne⟩, h.mo⟩
  obtain ⟨g, cap, _, _, _, hx⟩ := hp.own i k v hi hk hv
  rw [hz i hi] at hx
  omega
theorem NDev.onlyN {base m : Nat} {w w' : World} {L : DLay} {S : PSt} {N : DSt} (h : NDev base w L S N m) {l : List Nat} (hO : Only l w w') (hl : ∀ k ∈ l, (k ≠ L.c ∧ k ≠ L.mb ∧ k ≠ L.nb ∧ k ≠ L.eb ∧ k ≠ L.pb) ∧ k < base) (hmo : L.mo = none) : NDev base w' L S N m :=
  ⟨h.pow.only hO (fun e => (hl _ e).1.2.2.2.2 rfl) (fun q hq => by rw [hmo] at hq; cases hq), h.chip.only hO (fun k hk => ⟨⟨(hl k hk).1.1, (hl k hk).1.2.1, (hl k hk).1.2.2.1, (hl k hk).1.2.2.2.1⟩, .inl (hl k hk).2⟩), h.mo⟩

set_option maxHeartbeats 8000000 in
theorem NandLoads_walk (ga gb gc gd ge : Int) (bv0 : Value) (xs : List Int) (fl : Int) (w : World) (w0 : GeoOk ga gb gc gd ge) (w1 : IRow .u8 w bv0 xs) (w2 : (Lit.int .u8 fl).wf = true) :
    Calls Try.prog 5 #[.agg (gcells ga gb gc gd ge), bv0, .int .u8 fl] w fun e w' => e = .returned (.bool true) ∧ Below w.heap.size w w' := by
  have hrow := w1.bytes
  have hlen := hrow.lenRun
  have hfl := wf_u8 w2
  have HB := hide hrow
  clear w1 w2 hrow
  have hplay := fun w => playN_any w ga gb gc gd ge
  have hB0 : Below w.heap.size w (w.alloc (.cells (gcells ga gb gc gd ge) 23)) := (Below.refl _ _).alloc (Nat.le_refl _) _
  have hG0 : Blk (w.alloc (.cells (gcells ga gb gc gd ge) 23)) w.heap.size (gcells ga gb gc gd ge) 23 := Blk.new w _ _
  unfold gcells at hplay hB0 hG0 ⊢
  go_enter Try.func5, Try.ntmps5
  go_wp2_with fail
  generalize hW1 : w.alloc (.cells #[.int .i64 ga, .int .i64 gb, .int .i64 gc, .int .i64 gd, .int .i64 ge] 23) = W1 at *
  clear hW1
  refine (hplay _).mono ?_
  rintro e W2 ⟨A, B, C, D, E, rfl, hr, hq, hb2⟩
  have HQ := hide hq
  clear hq
  have hs1 := hG0.lt
  have hB2 := hB0.trans (hb2.mono (by omega))
  have hG2 := hG0.below hb2 hG0.lt
  clear hb2 hB0 hG0 hplay
  have c0 := hG2.cell 0
  have c1 := hG2.cell 1
  have c2 := hG2.cell 2
  have c3 := hG2.cell 3
  have c4 := hG2.cell 4
  have f0 := hG2.frozen 0
  have f1 := hG2.frozen 1
  have f2 := hG2.frozen 2
  have f3 := hG2.frozen 3
  have f4 := hG2.frozen 4
  simp at c0 c1 c2 c3 c4
  have hG3 := ((((hG2.set 0 (.int .i64 (A : Int))).set 1 (.int .i64 (B : Int))).set 2 (.int .i64 (C : Int))).set 3 (.int .i64 (D : Int))).set 4 (.int .i64 (E : Int))
  have hB3 : Below w.heap.size w (((((W2.setCell ⟨w.heap.size, 0, none⟩ (.int .i64 (A : Int))).setCell ⟨w.heap.size, 1, none⟩ (.int .i64 (B : Int))).setCell ⟨w.heap.size, 2, none⟩ (.int .i64 (C : Int))).setCell ⟨w.heap.size, 3, none⟩ (.int .i64 (D : Int))).setCell ⟨w.heap.size, 4, none⟩ (.int .i64 (E : Int))) := ((((hB2.setCell (Nat.le_refl _) _).setCell (Nat.le_refl _) _).setCell (Nat.le_refl _) _).setCell (Nat.le_refl _) _).setCell (Nat.le_refl _) _
  have hu := rightS_of hr
  have hq := HQ.out
  have hCD0 : C * D ≤ 48 := Nat.mul_le_mul hq.1 hq.2.1
  have hTle : C * D * (E + 16) ≤ 2496 := Nat.mul_le_mul hCD0 (show E + 16 ≤ 52 by omega)
  have hT0 : 0 < C * D * (E + 16) := Nat.mul_pos (Nat.mul_pos (by omega) (by omega)) (by omega)
  have e1 : ((C : Int) * (D : Int)) = ((C * D : Nat) : Int) := by simp
  have e2 : ((C * D : Nat) : Int) * ((E : Int) + 16) = ((C * D * (E + 16) : Nat) : Int) := by simp
  obtain ⟨T, hT⟩ : ∃ T, C * D * (E + 16) = T := ⟨_, rfl⟩
  obtain ⟨Q, hQ⟩ : ∃ Q, C * D = Q := ⟨_, rfl⟩
  rw [hT] at e2 hTle hT0
  rw [hQ] at e1 e2 hCD0
  have HTT := hide hT
  have HQQ := hide hQ
  have hmk := fun (w : World) => run_make_bytes5 w T (by omega)
  have hE36 : E ≤ 36 := hq.2.2.1
  clear hT hQ hu hq
  have hs3 : (((((W2.setCell ⟨w.heap.size, 0, none⟩ (.int .i64 (A : Int))).setCell ⟨w.heap.size, 1, none⟩ (.int .i64 (B : Int))).setCell ⟨w.heap.size, 2, none⟩ (.int .i64 (C : Int))).setCell ⟨w.heap.size, 3, none⟩ (.int .i64 (D : Int))).setCell ⟨w.heap.size, 4, none⟩ (.int .i64 (E : Int))).heap.size = W2.heap.size := by simp
  go_wp2_with fail
  generalize hW3 : ((((W2.setCell ⟨w.heap.size, 0, none⟩ (.int .i64 (A : Int))).setCell ⟨w.heap.size, 1, none⟩ (.int .i64 (B : Int))).setCell ⟨w.heap.size, 2, none⟩ (.int .i64 (C : Int))).setCell ⟨w.heap.size, 3, none⟩ (.int .i64 (D : Int))).setCell ⟨w.heap.size, 4, none⟩ (.int .i64 (E : Int)) = W3 at *
  clear hW3 c0 c1 c2 c3 c4 f0 f1 f2 f3 f4 hG2 hB2
  have hgl : w.heap.size < W3.heap.size := hG3.lt
  have hG3' : Blk W3 w.heap.size (gcells A B C D E) 23 := hG3
  have hx0 : Blk (W3.alloc (.cells (bv (List.replicate T 0)).toArray 5)) W2.heap.size (bv (fillX xs fl T 0)).toArray 5 := by
    have := Blk.new W3 (bv (List.replicate T 0)).toArray 5
    rw [hs3] at this
    simpa [fillX] using this
  have hxb0 : Below W3.heap.size W3 (W3.alloc (.cells (bv (List.replicate T 0)).toArray 5)) := (Below.refl _ _).alloc (Nat.le_refl _) _
  have HX0 := hide hx0
  have HXB0 := hide hxb0
  have HFB := hide (fun k => fillX_bys (b := xs) (f := fl) HB.out.bys hfl T k)
  generalize hxb : W2.heap.size = xb at *
  clear hx0 hxb0 hxb hmk hG3
  go_loopw [37] (fun s wr => ∃ k : Nat, k ≤ T ∧ s = .int .i64 k ∧ Blk wr xb (bv (fillX xs fl T k)).toArray 5 ∧ Below W3.heap.size W3 wr) (fun s _ => T - (intOf s).toNat)
  case atStart => exact ⟨0, Nat.zero_le _, rfl, HX0.out, HXB0.out⟩
  case round =>
    obtain ⟨k, hk, rfl, hX, hbX⟩ := hrel
    clear HX0 HXB0
    by_cases hlt : k < T
    · have hlt' : (k : Int) < T := by omega
      obtain ⟨y, hy⟩ : ∃ y, (fillX xs fl T k).getD k 0 = y := ⟨_, rfl⟩
      have hc : wr.cell? ⟨xb, k, none⟩ = some (.int .u8 y) := by rw [hX.cell k, List.getElem?_toArray, bv_at (by rw [fillX_length hk]; exact hlt), hy]
      have hf := hX.frozen k
      have hX1 := hX.setB5 k fl
      have hbX1 : Below W3.heap.size W3 (wr.setCell ⟨xb, k, none⟩ (.int .u8 fl)) := hbX.setCell (show W3.heap.size ≤ xb by omega) _
      have hbw1 : Below w.heap.size w (wr.setCell ⟨xb, k, none⟩ (.int .u8 fl)) := hB3.trans (hbX1.mono (by omega))
      clear hy
      by_cases hkb : k < xs.length
      · have hkb' : (k : Int) < xs.length := by omega
        obtain ⟨p, hix, hcp⟩ := (HB.out.below hbw1).idx k hkb
        have hff : fitF xs fl k = xs.getD k 0 := by unfold fitF; rw [if_pos hkb]
        have hX2 := hX1.setB5 k (xs.getD k 0)
        rw [← hff, fillX_set2 fl hlt, hff] at hX2
        have hbX2 : Below W3.heap.size W3 ((wr.setCell ⟨xb, k, none⟩ (.int .u8 fl)).setCell ⟨xb, k, none⟩ (.int .u8 (xs.getD k 0))) := hbX1.setCell (show W3.heap.size ≤ xb by omega) _
        have hc1 : (wr.setCell ⟨xb, k, none⟩ (.int .u8 fl)).cell? ⟨xb, k, none⟩ = some (.int .u8 fl) := by rw [hX1.cell k, List.getElem?_toArray, bv_at (by rw [List.length_set, fillX_length hk]; exact hlt)]; simp [List.getD, fillX_length hk, hlt]
        have hf1 := hX1.frozen k
        have HX2 := hide hX2
        generalize xs.getD k 0 = b at *
        clear hff hX hX1 hX2 hbX hbX1
        go_wp2
        go_roundw
        case rel => exact ⟨k + 1, by omega, by go_num, HX2.out, hbX2⟩
        case measure => simp [intOf]; omega
      · have hkb' : ¬ (k : Int) < xs.length := by omega
        have hff : fitF xs fl k = fl := by unfold fitF; rw [if_neg hkb]
        have hX2 : Blk (wr.setCell ⟨xb, k, none⟩ (.int .u8 fl)) xb (bv (fillX xs fl T (k + 1))).toArray 5 := by
          rw [← fillX_set hlt, hff]
          exact hX1
        have HX2 := hide hX2
        clear hff hX hX1 hX2 hbX
        go_wp2
        go_roundw
        case rel => exact ⟨k + 1, by omega, by go_num, HX2.out, hbX1⟩
        case measure => simp [intOf]; omega
    · have hkT : k = T := by omega
      rw [hkT] at hX ⊢
      obtain ⟨X, hXe⟩ : ∃ X, fillX xs fl T T = X := ⟨_, rfl⟩
      rw [hXe] at hX
      have HXL := hide (show X.length = C * D * (E + 16) by rw [← hXe, fillX_length (Nat.le_refl _)]; exact HTT.out.symm)
      have HXB := hide (show Bys X from hXe ▸ HFB.out T)
      have hXrow : Row wr (.slice (some ⟨xb, 0, none⟩) T T) X := hX.bytesRow (by rw [← hXe]; exact fillX_length (Nat.le_refl _)) (by omega) HXB.out
      have hxlt := hX.lt
      have HXR := hide hXrow
      have hG4 := hG3'.below hbX hgl
      have hB4 : Below w.heap.size w wr := hB3.trans (hbX.mono (by omega))
      clear hX hXe hXrow HFB hkT hlt hk HB hlen hB3 hbX hG3'
      generalize wr = W4 at *
      have hH4 := holdD_of hG4 (Below.refl _ _)
      have hnn := fun (w : World) po => NewNand_right w A B C D E po (wf_of_right hr) hr
      have hrn := fun (w : World) (pb : Nat) h => RNewNand_right w A B C D E pb h (wf_of_right hr) hr
      unfold gcells at hnn hrn
      generalize hgs : w.heap.size = gs at *
      go_wp2_with fail
      go_region_held3 (fun w' => (w'.cell? ⟨gs, 0, none⟩ = some (.int .i64 (A : Int)) ∧ w'.cell? ⟨gs, 1, none⟩ = some (.int .i64 (B : Int)) ∧ w'.cell? ⟨gs, 2, none⟩ = some (.int .i64 (C : Int)) ∧ w'.cell? ⟨gs, 3, none⟩ = some (.int .i64 (D : Int)) ∧ w'.cell? ⟨gs, 4, none⟩ = some (.int .i64 (E : Int))) ∧ (Blk w' gs (gcells A B C D E) 23 ∧ Below W4.heap.size W4 w'))
        (first
          | assumption
          | exact holdD_below hb41 (by assumption)
          | exact holdD_below hm42.below (by assumption)
          | exact holdD_drew (by assumption)
          | fail)
        (first
          | (go_at_call 9; refine (NewB_any _).mono ?_; rintro e w41 ⟨rfl, hb41, hw41⟩)
          | (go_at_call 11; refine (hnn _ _).mono ?_; rintro e w42 ⟨kc, mb, nb, eb, rfl, hm42⟩)
          | fail)
      have hK := hm42.kept (w0 := W4) (w1 := W4.drew) (Below.refl _ _).drew hw41.out hr
      have ok := DSt.new_ok hr 0
      have hmb : mb < w42.heap.size := hm42.map.lt
      clear hm42 hw41 hb41 hnn hH4
      generalize hL : (⟨kc, W4.drew.heap.size, none, mb, nb, eb⟩ : DLay) = L at *
      obtain rfl : kc = L.c := by rw [← hL]
      have hmo : L.mo = none := by rw [← hL]
      have hmbL : L.mb < w42.heap.size := by rw [← hL]; exact hmb
      clear hL hmb
      have HK := hide hK
      have HOK := hide ok
      have hG42 := hG4.below hK.below (by omega)
      have hH42 := holdD_of hG42 (Below.refl _ _)
      clear hK ok
      go_wp2_with fail
      go_region_held3 (fun w' => (w'.cell? ⟨gs, 0, none⟩ = some (.int .i64 (A : Int)) ∧ w'.cell? ⟨gs, 1, none⟩ = some (.int .i64 (B : Int)) ∧ w'.cell? ⟨gs, 2, none⟩ = some (.int .i64 (C : Int)) ∧ w'.cell? ⟨gs, 3, none⟩ = some (.int .i64 (D : Int)) ∧ w'.cell? ⟨gs, 4, none⟩ = some (.int .i64 (E : Int))) ∧ (Blk w' gs (gcells A B C D E) 23 ∧ Below w42.heap.size w42 w'))
        (first
          | assumption
          | exact holdD_below hb51 (by assumption)
          | exact holdD_below hb52 (by assumption)
          | exact holdD_drew (by assumption)
          | fail)
        (first
          | (go_at_call 10; refine (RNewB_any _).mono ?_; rintro e w51 ⟨rfl, hb51, hl51⟩)
          | (go_at_call 12; refine (hrn _ _ hl51).mono ?_; rintro e w52 ⟨M, rfl, hM52, hpb52, hlo52, hb52⟩)
          | fail)
      have hB52 : Below w42.heap.size w42 w52 := (by assumption : (_ ∧ _) ∧ (_ ∧ Below w42.heap.size w42 w52)).2.2
      have hK52 := HK.out.below' hB52
      have hG52 := hG42.below hB52 (by have := HK.out.wb; omega)
      have hXR52 := (HXR.out.below HK.out.below).below hB52
      have hs51 : w42.heap.size ≤ w51.heap.size := by have := hb51.size; exact this
      have hmpb : w42.heap.size ≤ M.pb ∧ M.pb < w51.heap.size := by rw [hpb52]; exact ⟨Nat.le_refl _, hl51⟩
      have hs52 := hb52.size
      generalize hxv : Value.slice (some ⟨xb, 0, none⟩) T T = xv at *
      have HXV := hide hxv
      clear hb51 hl51 hb52 hpb52 hrn hH42
      go_wp2_with fail
      refine (awake5_any w52).mono ?_
      rintro e w6 ⟨rfl, hb6⟩
      have hK6 := hK52.below' hb6
      have hG6 := hG52.below hb6 hG52.lt
      have hXR6 := hXR52.below hb6
      have hM6 := hM52.below hb6
      have hs6 := hb6.size
      have hMl := hM6.blk.lt
      have hMn := hM6.nxt.lt
      have hD6 := hK6.dev.raise (base' := w6.heap.size) (fun i hi => getD_rep _ _ _ hi) hK6.size
      have hlo := hK6.lo
      have hlt6 := hK6.dev.chip.lt
      have hwb := HK.out.wb
      have hmblt : L.mb < w6.heap.size := by have := hK6.size; omega
      have hXnot : ∀ b off n cap, xv = .slice (some ⟨b, off, none⟩) n cap → b = xb := by
        intro b off n cap e
        rw [← HXV.out] at e
        simp at e
        exact e.1.1.symm
      have hl1 := Load5_any w6.heap.size w6 L _ (DSt.new A B C D E) 0 0 hD6 (HOK.out) (Nat.le_refl _) (fun k e => by rw [hmo] at e; cases e) xv X hXR6 HXL.out (fun b off n cap e => by have := hXnot b off n cap e; omega)
      have HL1 := hide hl1
      have hB6 : Below gs w w6 := by rw [← hgs] at hB4 ⊢; exact ((hB4.trans (HK.out.below.mono (by omega))).trans (hB52.mono (by omega))).trans (hb6.mono (by omega))
      clear hl1 hb6 hK52 hG52 hXR52 hM52 hB52 hG42 HK hG4 hB4
      go_wp2_with fail
      refine Calls.mono HL1.out ?_
      rintro e w7 ⟨rfl, mb, hmb, hD7, hO7⟩
      have hM7 := hM6.only hO7 (by simp; omega)
      have hXR7 := hXR6.only hO7 (fun b off n cap e => by have := hXnot b off n cap e; simp; omega)
      have hG7 := hG6.only hO7 (by simp; omega)
      have hl2 := RLoad5_any w7 M (DSt.new A B C D E) 0 hM7 HOK.out xv X hXR7 HXL.out (fun b off n cap e => by have := hXnot b off n cap e; omega) (by have := hO7.size; omega)
      have HL2 := hide hl2
      clear hl2 HL1 hG6 hXR6 hM6 hD6 hK6
      go_wp2_with fail
      refine Calls.mono HL2.out ?_
      rintro e w8 ⟨rfl, bb, bc, hbb, hM8, hO8⟩
      have hne6 := hD7.chip.ne
      simp only at hne6
      have hD8 := hD7.onlyN hO8 (fun k hk => by simp at hk; simp only; omega) hmo
      have hXR8 := hXR7.only hO8 (fun b off n cap e => by have := hXnot b off n cap e; simp; omega)
      have hG8 := hG7.only hO8 (by simp; omega)
      have hB8 : Below gs w w8 := hO8.below (hO7.below hB6 (by simp; omega) (by omega)) (by simp; omega) (by have := hO7.size; omega)
      have okL := HOK.out.load HXL.out HXB.out
      have hs8 : w6.heap.size ≤ w8.heap.size := Nat.le_trans hO7.size hO8.size
      have HDV := hide hD8
      have HOL := hide okL
      have HXR8 := hide hXR8
      have HM8 := hide hM8
      have hlX : X.length = T := by rw [HXL.out]; exact HTT.out
      have hcX := hXR8.lenRun
      have HG8 := hide hG8
      have g2 := (hG8.cell 2).trans (show _ = some (Value.int .i64 (C : Int)) from rfl)
      have g3 := (hG8.cell 3).trans (show _ = some (Value.int .i64 (D : Int)) from rfl)
      have hu := rightS_of hr
      clear hD7 hM7 hXR7 hG7 HL2 hO7 hO8 hD8 hM8 hXR8 hG8 okL hB6
      go_wp2_with fail
      go_loopw [14] (fun s wr => ∃ i : Nat, i ≤ Q ∧ s = .int .i64 i ∧ Only [] w8 wr) (fun s _ => Q - (intOf s).toNat)
      case atStart => exact ⟨0, Nat.zero_le _, rfl, Only.refl _ _⟩
      case round =>
        obtain ⟨i, hi, rfl, hOx⟩ := hrel
        have d2 := only_cell hOx (by simp) g2
        have d3 := only_cell hOx (by simp) g3
        by_cases hlt2 : i < Q
        · have hlt2' : (i : Int) < Q := by omega
          obtain ⟨kq, hkq⟩ : ∃ x : Nat, x = i / D := ⟨_, rfl⟩
          obtain ⟨kr, hkr⟩ : ∃ x : Nat, x = i % D := ⟨_, rfl⟩
          have hD0 : 0 < D := by omega
          have hq1 : (i : Int).tdiv (D : Int) = (kq : Int) := by rw [hkq, Int.tdiv_eq_ediv_of_nonneg (by omega)]; rfl
          have hr1 : (i : Int).tmod (D : Int) = (kr : Int) := by rw [hkr, Int.tmod_eq_emod_of_nonneg (by omega)]; rfl
          have hq3 : (i : Int) / (D : Int) = (kq : Int) := by rw [hkq]; rfl
          have hr3 : (i : Int) % (D : Int) = (kr : Int) := by rw [hkr]; rfl
          have hi48 : i < 48 := by omega
          have hkqC : kq < C := by rw [hkq]; exact Nat.div_lt_of_lt_mul (by rw [Nat.mul_comm, HQQ.out]; exact hlt2)
          have hkrD : kr < D := by rw [hkr]; exact Nat.mod_lt _ hD0
          have hdm : kq * D + kr = i := by rw [hkq, hkr, Nat.mul_comm]; exact Nat.div_add_mod i D
          have hd0 : ¬ D = 0 := by omega
          have hw1 : IntKind.i64.wrap (kq : Int) = kq := i64_in _ (by omega)
          have hw2 : IntKind.i64.wrap (kr : Int) = kr := i64_in _ (by omega)
          obtain ⟨P, hP⟩ : ∃ P, i * (E + 16) = P := ⟨_, rfl⟩
          have hPT : P + (E + 16) ≤ T := by
            rw [← hP, ← HTT.out, HQQ.out]
            exact q_apart hlt2
          obtain ⟨P2, hP2⟩ : ∃ P2, P + (E + 16) = P2 := ⟨_, rfl⟩
          have e5 : (i : Int) * ((E : Int) + 16) = (P : Int) := by rw [← hP]; simp
          have e6 : ((i : Int) + 1) * ((E : Int) + 16) = (P2 : Int) := by rw [Int.add_mul, e5, ← hP2]; simp
          have v5 : IntKind.i64.wrap ((i : Int) * ((E : Int) + 16)) = (P : Int) := by rw [e5]; exact i64_in _ (by omega)
          have v6 : IntKind.i64.wrap (((i : Int) + 1) * ((E : Int) + 16)) = (P2 : Int) := by rw [e6]; exact i64_in _ (by omega)
          have v7 : IntKind.i64.wrap ((i : Int) + 1) = (i : Int) + 1 := i64_in _ (by omega)
          have hat : ((DSt.new A B C D E).load X).at kq kr = P := by show (kq * D + kr) * (E + 16) = P; rw [hdm, hP]
          have hrd0 : readD ((DSt.new A B C D E).load X) (kq : Int) (kr : Int) = (0, pgs X P E, pgs X (P + E) 16) := by
            have h0 : isP ((DSt.new A B C D E).load X) (kq : Int) (kr : Int) = true := decide_eq_true ⟨⟨by omega, by show (kq : Int) < ((C : Nat) : Int); omega⟩, by omega, by show (kr : Int) < ((D : Nat) : Int); omega⟩
            unfold readD
            rw [h0, if_pos rfl, Int.toNat_natCast, Int.toNat_natCast, hat]
            rfl
          have hread := fun (W : World) (hO : Only [] wr W) => Read5_any w6.heap.size W { L with mb := mb } ((DSt.new A B C D E).load X) (C * D) 0 (HDV.out.still (hOx.trans hO)).chip HOL.out (kq : Int) (kr : Int) (wfNat5 (by omega)) (wfNat5 (by omega))
          rw [hrd0] at hread
          have HRD := hide hread
          have hpl1 : (pgs X P E).length = E := pgs_length (by omega)
          have hpl2 : (pgs X (P + E) 16).length = 16 := pgs_length (by omega)
          have hjoin : pgs X P E ++ pgs X (P + E) 16 = (X.drop P).take (E + 16) := (pgs_split X P E 16).symm
          obtain ⟨xs2, hsl2, hrs2⟩ := (HXR8.out.only hOx (by simp)).btw P P2 (by omega) (by omega)
          rw [show P2 - P = E + 16 by omega] at hrs2
          have hnx := fun (W : World) (hO : Only [] wr W) => Programmed_any w6.heap.size W { L with mb := mb } ((DSt.new A B C D E).load X) (C * D) 0 (HDV.out.still (hOx.trans hO)).chip HOL.out (kq : Int) (wfNat5 (by omega))
          have hnd : nextD ((DSt.new A B C D E).load X) (kq : Int) = ((DSt.new A B C D E).load X).nx.getD kq 0 := by
            unfold nextD
            rw [show isB ((DSt.new A B C D E).load X) (kq : Int) = true from decide_eq_true ⟨by omega, by show (kq : Int) < ((C : Nat) : Int); omega⟩, if_pos rfl, Int.toNat_natCast]
          rw [hnd] at hnx
          have m7 := only_cell hOx (by simp) HM8.out.ncell
          have mn := only_cell hOx (by simp) (HM8.out.nextAt (j := kq) (by rw [HOL.out.nl]; exact hkqC))
          simp only at m7 mn
          have m7' : wr.cell? ⟨M.c, 7, none⟩ = some (.slice (some ⟨M.nb, 0, none⟩) C C) := m7
          obtain ⟨nv, hnv⟩ : ∃ z, ((DSt.new A B C D E).load X).nx.getD kq 0 = z := ⟨_, rfl⟩
          rw [hnv] at hnx mn
          have HNX := hide hnx
          have HRS2 := hide hrs2
          have HJ := hide hjoin
          have HP1 := hide hpl1
          have HP2 := hide hpl2
          have hkqC' : (kq : Int) < C := by omega
          have HE5 := hide e5
          have HE6 := hide e6
          have HV5 := hide v5
          have HV6 := hide v6
          have HV7 := hide v7
          have HM7 := hide m7'
          have HMN := hide mn
          have HSL2 := hide hsl2
          have hd3 : (2 : Int) ≤ D := by omega
          clear hread hnx hnd hnv hrd0 hat hrs2 hjoin hpl1 hpl2 m7 hkq hkr hP hP2 e5 e6 v5 v6 v7 m7' mn hsl2 hdm hPT hi48
          clear hxv hcX g2 g3 hXnot hu
          go_wp2_with fail
          go_region_held3 (fun w' => (w'.cell? ⟨gs, 3, none⟩ = some (.int .i64 (D : Int)) ∧ w'.cell? ⟨gs, 2, none⟩ = some (.int .i64 (C : Int))) ∧ Only [] wr w')
            (first
              | assumption
              | exact ⟨⟨d3, d2⟩, only_grown (grown_drew wr none) (by simp)⟩
              | exact hold2_only5 (only_below (l := []) hb9) (by simp) (by simp) (by assumption)
              | fail)
            (first
              | (go_at_call 27; refine (HRD.out _ (by exact only_grown (grown_drew wr none) (by simp))).mono ?_; rintro e w9 ⟨du, dv, rfl, hfu, hfv, hb9⟩)
              | fail)
          have hO9 : Only [] wr w9 := (by assumption : (_ ∧ _) ∧ Only [] wr w9).2
          have hB9 : Below wr.heap.size wr w9 := ((Below.refl wr.heap.size wr).drew).trans hb9
          have e3' := only_cell hO9 (by simp) d3
          have e7 := only_cell hO9 (by simp) HM7.out
          have en := only_cell hO9 (by simp) HMN.out
          have hwz : wr.heap.size ≤ w9.heap.size := hb9.size
          have k1 : gs < wr.heap.size := World.block_lt_of_cell? wr _ d3
          have k2 : M.c < wr.heap.size := World.block_lt_of_cell? wr _ HM7.out
          have k3 : M.nb < wr.heap.size := World.block_lt_of_cell? wr _ HMN.out
          have HFU : Hid (Fresh wr.heap.size w9 du (pgs X P E)) := hfu
          have HFV : Hid (Fresh wr.heap.size w9 dv (pgs X (P + E) 16)) := hfv
          have hJ := HJ.out
          have e5 := HE5.out
          have e6 := HE6.out
          have v5 := HV5.out
          have v6 := HV6.out
          have v7 := HV7.out
          have hsl2 := HSL2.out
          have wP : IntKind.i64.wrap (P : Int) = (P : Int) := by rw [← e5]; rw [v5, e5]
          have wP2 : IntKind.i64.wrap (P2 : Int) = (P2 : Int) := by rw [← e6]; rw [v6, e6]
          have hsl3 : ∀ w', (Instr.slice 43 xv (some (.int .i64 (P : Int))) (some (.int .i64 (P2 : Int))) none).run Try.prog w' = .ok xs2 w' := fun w' => by rw [← run_sliceAt_slice _ _ _ _ _ _ sliceTy]; exact hsl2 w'
          clear v5 v6
          have hd9 : Below w9.heap.size w9 w9.drew := (Below.refl _ _).drew
          have HU9 := hide (HFU.out.kept hd9)
          have HV9 := hide (HFV.out.kept hd9)
          obtain ⟨ua, ucap, hue⟩ := HFU.out.row.of_len
          obtain ⟨va, vcap, hve⟩ := HFV.out.row.of_len
          have HC0 := hide (show (w9.drew.cell? ⟨gs, 3, none⟩ = some (.int .i64 (D : Int)) ∧ w9.drew.cell? ⟨M.c, 7, none⟩ = some (.slice (some ⟨M.nb, 0, none⟩) C C) ∧ w9.drew.cell? ⟨M.nb, kq, none⟩ = some (.int .i64 nv)) ∧ Below wr.heap.size w9 w9.drew from ⟨⟨e3', e7, en⟩, (Below.refl _ _).drew⟩)
          have HXS := hide (fun (W : World) (hb : Below wr.heap.size w9 W) => HRS2.out.below (hB9.trans hb))
          have HPR := hide (fun (W : World) (hb : Below wr.heap.size w9 W) => HNX.out W (only_below (hB9.trans hb)))
          clear hb9 hfu hfv HRD d2 d3 HM7 HMN HE5 HE6 HV5 HV6 HV7 HSL2 HRS2 HNX e3' e7 en hd9 HFU HFV hue hve hJ
          go_wp2_with fail
          go_region_held3 (fun w' => (w'.cell? ⟨gs, 3, none⟩ = some (.int .i64 (D : Int)) ∧ w'.cell? ⟨M.c, 7, none⟩ = some (.slice (some ⟨M.nb, 0, none⟩) C C) ∧ w'.cell? ⟨M.nb, kq, none⟩ = some (.int .i64 nv)) ∧ Below wr.heap.size w9 w')
            (first
              | assumption
              | exact HC0.out
              | exact hold3_below5 hb10 k1 k2 k3 (by assumption)
              | fail)
            (first
              | (refine step_append_fresh (by rfl) _ _ (by rfl) wr.heap.size du dv (pgs X P E) (pgs X (P + E) 16) (by rfl) (by exact HU9.out) (by rfl) (by exact HV9.out.row) (by rw [HP2.out]; omega) (by rw [HP1.out, HP2.out]; omega) (by exact hwz) ?_; intro v10 w10 hr10 hb10)
              | (go_at_call 29; refine (Bytes_any _ _ _ _ _ (by exact hr10) (HXS.out _ (And.right (by assumption)))).mono ?_; rintro e w11 ⟨rfl, rfl⟩; rw [HJ.out]; simp only [decide_true])
              | (go_at_call 30; refine (HPR.out _ (And.right (by assumption))).mono ?_; rintro e w12 ⟨rfl, rfl⟩)
              | fail)
          all_goals
            go_wp2
            go_roundw
            case rel => exact ⟨i + 1, by omega, by go_num, hOx.trans (only_below (hB9.trans (And.right (by assumption : _ ∧ Below wr.heap.size w9 _))))⟩
            case measure => simp [intOf]; omega
        · obtain rfl : i = Q := by omega
          obtain ⟨x1, hsl1, hr1⟩ := (HXR8.out.only hOx (by simp)).from 1 (by omega)
          have hsh := Load5_short w6.heap.size wr { L with mb := mb } ((DSt.new A B C D E).load X) (C * D) 0 (HDV.out.still hOx).chip HOL.out x1 (X.drop 1) hr1 (by show (X.drop 1).length ≠ C * D * (E + 16); rw [List.length_drop, hlX, HTT.out]; omega)
          have HSH := hide hsh
          have hBr : Below gs w wr := hOx.below hB8 (by simp) (by omega)
          have hsl1' : ∀ w', (Instr.sliceAt 43 xv (some (.int .i64 1)) none none).run Try.prog w' = .ok x1 w' := hsl1
          clear hsl1 hsh hr1
          go_wp2_with fail
          refine (Read5_nil wr 0 0).mono ?_
          rintro e wa ⟨rfl, rfl⟩
          go_wp2_with fail
          refine Calls.mono HSH.out ?_
          rintro e wb ⟨rfl, hbb2⟩
          have hBb : Below gs w wb := hBr.trans (hbb2.mono (by have := hOx.size; omega))
          go_wp2_with fail
          refine (Program5_nil wb 0 0 _ _).mono ?_
          rintro e wc ⟨rfl, rfl⟩
          go_wp2_with fail
          refine (Erase5_nil wc 0).mono ?_
          rintro e wd ⟨rfl, rfl⟩
          go_wp2_with fail
          refine (Load5_nil wd _).mono ?_
          rintro e we ⟨rfl, rfl⟩
          go_wp2_with fail
          refine (Programmed5_nil we 0).mono ?_
          rintro e wf ⟨rfl, rfl⟩
          go_wp2_with fail
          refine (Erases5_nil wf 0).mono ?_
          rintro e wg ⟨rfl, rfl⟩
          go_wp2_with fail
          refine (Power5_nil wg).mono ?_
          rintro e wh ⟨rfl, rfl⟩
          go_wp2_with fail
          refine (Geometry5_nil wh).mono ?_
          rintro e wi ⟨rfl, hbi⟩
          have hBi : Below gs w wi := hBb.trans (hbi.mono (by have := hbb2.size; have := hOx.size; omega))
          unfold gcells
          go_wp2
          go_ret
          refine ⟨rfl, ?_⟩
          rw [hgs]
          exact hBi
end Go.Proofs.Ythlkilgfphbfcaa
