/-
  The walk of garretlaw04.NorPlays.
-/
import Derived.Test.YtnlfhapnclfonaaTwoN
import Derived.Test.YtnlfhapnclfonaaGeoO
import Derived.Test.YtnlfhapnclfonaaHelp2
import Derived.Lib.Builder
import Derived.Deep.CutBlock
import Derived.Deep.DeepCutAuto
namespace Go.Proofs.Ytnlfhapnclfonaa
open Go.RowKit
set_option linter.unusedVariables false

/-- One thing that is done. -/
structure OpN where
  kind : Int
  p : Int
  n : Int
  mask : Int
  bv : Value
  b : List Int
instance : Inhabited OpN := ⟨⟨0, 0, 0, 0, .slice none 0 0, []⟩⟩
def OpN.cells (o : OpN) : List Value := [.int .i64 o.kind, .int .i64 o.p, .int .i64 o.n, .int .u8 o.mask, o.bv]
structure OpN.Ok (w : World) (o : OpN) : Prop where
  kind : (Lit.int .i64 o.kind).wf = true
  p : (Lit.int .i64 o.p).wf = true
  n : (Lit.int .i64 o.n).wf = true
  mask : (Lit.int .u8 o.mask).wf = true
  b : IRow .u8 w o.bv o.b
theorem opens_opn (w : World) : Opens Try.prog w 41 (fun cs => ∃ o : OpN, cs = o.cells ∧ o.Ok w) := by
  have hI : ∀ w : World, Opens Try.prog w 3 _ := fun w => opens_int Try.underlying3
  have hB : ∀ w : World, Opens Try.prog w 5 _ := fun w => opens_int Try.underlying5
  have hL : ∀ w : World, Opens Try.prog w 39 _ := fun w => opens_ints Try.underlying39 Try.underlying5 (by kernel_rfl)
  intro H enc fuel cs x h
  obtain ⟨xs, n, _, rfl, hl, hlen, hf⟩ := DataW.trod_struct Try.underlying41 h
  have c5 : Try.prog.cellsOf 41 = 5 := by kernel_rfl
  have ci : Try.prog.cellsOf 3 = 1 := by kernel_rfl
  have cb : Try.prog.cellsOf 5 = 1 := by kernel_rfl
  have cl : Try.prog.cellsOf 39 = 1 := by kernel_rfl
  rw [c5] at hl
  match xs, hlen, cs, hl with
  | [y0, y1, y2, y3, y4], _, [v0, v1, v2, v3, v4], _ =>
    have g0 := hf 0 _ rfl
    have g1 := hf 1 _ rfl
    have g2 := hf 2 _ rfl
    have g3 := hf 3 _ rfl
    have g4 := hf 4 _ rfl
    simp [ci, cb, cl] at g0 g1 g2 g3 g4
    obtain ⟨a0, h0, p0⟩ := hI w _ _ _ _ _ g0
    obtain ⟨a1, h1, p1⟩ := hI w _ _ _ _ _ g1
    obtain ⟨a2, h2, p2⟩ := hI w _ _ _ _ _ g2
    obtain ⟨a3, h3, p3⟩ := hB w _ _ _ _ _ g3
    obtain ⟨a4, l, h4, p4⟩ := hL w _ _ _ _ _ g4
    simp at h0 h1 h2 h3 h4
    subst h0 h1 h2 h3 h4
    exact ⟨⟨a0, a1, a2, a3, _, l⟩, rfl, p0, p1, p2, p3, p4⟩
theorem NorPlays_open1 (w : World) : Opens Try.prog w 24 (fun cs => ∃ v xs, cs = [v] ∧ Seq w 5 OpN.cells v xs ∧ ∀ o ∈ xs, o.Ok w) := by
  have h := opens_slice Try.underlying24 OpN.cells (OpN.Ok w) (opens_opn w)
  rwa [show Try.prog.cellsOf 41 = 5 from by kernel_rfl] at h

/-- What the first region holds. -/
abbrev HoldQ (W : World) (s : Nat) (a b c d e : Int) (w : World) : Prop :=
  (w.cell? ⟨s, 0, none⟩ = some (.int .i64 a) ∧ w.cell? ⟨s, 1, none⟩ = some (.int .i64 b) ∧ w.cell? ⟨s, 2, none⟩ = some (.int .i64 c) ∧ w.cell? ⟨s, 3, none⟩ = some (.int .i64 d) ∧ w.cell? ⟨s, 4, none⟩ = some (.int .i64 e)) ∧ (Blk w s (gcells a b c d e) 23 ∧ Below W.heap.size W w)
theorem holdQ_below {W : World} {s : Nat} {a b c d e : Int} {w w' : World} (hb : Below w.heap.size w w') (h : HoldQ W s a b c d e w) : HoldQ W s a b c d e w' :=
  have k := holdG_below (s := s) hb ⟨h.1, h.2.1⟩
  ⟨k.1, k.2, h.2.2.trans (hb.mono h.2.2.size)⟩
theorem holdQ_drew {W : World} {s : Nat} {a b c d e : Int} {w : World} (h : HoldQ W s a b c d e w) : HoldQ W s a b c d e w.drew := holdQ_below (Below.refl _ _).drew h
theorem neGeo (w : World) (a b c d e : Int) : (binOp .neq 23 (.agg #[.int .i64 a, .int .i64 b, .int .i64 c, .int .i64 d, .int .i64 e]) (.agg #[.int .i64 a, .int .i64 b, .int .i64 c, .int .i64 d, .int .i64 e])).run Try.prog w = .ok (.bool false) w := by
  go_simp

theorem nePow (w : World) (a : Addr) : (binOp .neq 26 (.pointer (some a)) (.pointer (some a))).run Try.prog w = .ok (.bool false) w := by
  obtain ⟨j, hj⟩ := Option.isSome_iff_exists.1 (show (Try.prog.info? 67).isSome = true by kernel_rfl)
  exact Lib.run_neq_ptr_same w a Try.underlying26 hj

theorem cell_only {l : List Nat} {w w' : World} {b i : Nat} {u : Value} (hg : Only l w w') (hn : b ∉ l) (h : w.cell? ⟨b, i, none⟩ = some u) : w'.cell? ⟨b, i, none⟩ = some u :=
  (World.cell?_of_block (a := ⟨b, i, none⟩) (hg.block b (World.block_lt_of_cell? w _ h) hn)).trans h
theorem Chip.rowAll {t : TypeId} {base : Nat} {w : World} {L : Lay} {N : NSt} (h : Chip t base w L N) {n : Nat} (ok : N.Ok n) : Row w (.slice (some ⟨L.bb, 0, none⟩) (N.A * N.B) (N.A * N.B)) N.bs := by
  have := h.row ok (p := 0) (k := N.A * N.B) (by omega)
  rw [Nat.sub_zero, List.drop_zero, List.take_of_length_le (by rw [ok.len]; exact Nat.le_refl _)] at this
  exact this
theorem Chip.bytesCell {t : TypeId} {base : Nat} {w : World} {L : Lay} {N : NSt} (h : Chip t base w L N) : w.cell? ⟨L.c, 6, none⟩ = some (.slice (some ⟨L.bb, 0, none⟩) (N.A * N.B) (N.A * N.B)) := (h.blk.cell 6).trans rfl
theorem owns_only {l : List Nat} {w w' : World} {base : Nat} {e : TypeId} {sz n : Nat} {v : Value} {xs : List Value} (h : w.ownsRow base e sz v n xs) (hg : Only l w w') (hne : ∀ k, v.ownBlock = some k → k ∉ l) : w'.ownsRow base e sz v n xs := by
  refine ⟨h.1, ?_⟩
  rcases h.2 with hn | ⟨g, cap, cur, hv, hb, hh, r⟩
  · exact .inl hn
  · have hlt := (h.lt g (by rw [hv]; rfl)).2
    exact .inr ⟨g, cap, cur, hv, hb, (hg.block g hlt (hne g (by rw [hv]; rfl))).trans hh, r⟩
theorem read_all' (bs : List Int) (n : Nat) (hn : bs.length = n) : readS bs 0 n = (0, bs) := by
  unfold readS
  have h1 : hasS bs.length 0 n = true := by simp [hasS]; omega
  rw [h1, if_pos rfl]
  simp [← hn]

set_option maxRecDepth 100000 in
set_option maxHeartbeats 8000000 in
theorem NorPlays_walk (ga gb gc gd ge : Int) (v : Value) (ops : List OpN) (w : World) (w0 : GeoOk ga gb gc gd ge) (hs : Seq w 5 OpN.cells v ops) (hok : ∀ o ∈ ops, o.Ok w) :
    Calls Try.prog 3 #[.agg (gcells ga gb gc gd ge), v] w fun e w' => e = .returned (.bool true) ∧ Below w.heap.size w w' := by
  have hlm := hs.len
  unfold maxLen at hlm
  obtain ⟨ao, cap, hv⟩ := hs.of_len
  subst hv
  generalize hL0 : ops.length = len at *
  have HS := hide hs
  have HL0 := hide hL0
  have HOK := hide hok
  clear hs hL0 hok
  have hplay := fun w => play_any w ga gb gc gd ge
  have hB0 : Below w.heap.size w (w.alloc (.cells (gcells ga gb gc gd ge) 23)) := (Below.refl _ _).alloc (Nat.le_refl _) _
  have hG0 : Blk (w.alloc (.cells (gcells ga gb gc gd ge) 23)) w.heap.size (gcells ga gb gc gd ge) 23 := Blk.new w _ _
  unfold gcells at hplay hB0 hG0 ⊢
  go_enter Try.func3, Try.ntmps3
  go_wp2_with fail
  generalize hW1 : w.alloc (.cells #[.int .i64 ga, .int .i64 gb, .int .i64 gc, .int .i64 gd, .int .i64 ge] 23) = W1 at *
  clear hW1
  refine (hplay _).mono ?_
  rintro e W2 ⟨A, B, hc, hd, he, rfl, hr, hb2⟩
  have hs1 := hG0.lt
  have hB2 := hB0.trans (hb2.mono (by omega))
  have hG2 := hG0.below hb2 hG0.lt
  clear hb2 hB0 hG0 hplay
  have c0 := hG2.cell 0
  have c1 := hG2.cell 1
  have c2 := hG2.cell 2
  have c3 := hG2.cell 3
  have c4 := hG2.cell 4
  have f0 := hG2.frozen 0
  have f1 := hG2.frozen 1
  have f2 := hG2.frozen 2
  have f3 := hG2.frozen 3
  have f4 := hG2.frozen 4
  simp at c0 c1 c2 c3 c4
  have hG3 := ((((hG2.set 0 (.int .i64 A)).set 1 (.int .i64 B)).set 2 (.int .i64 hc)).set 3 (.int .i64 hd)).set 4 (.int .i64 he)
  have hB3 : Below w.heap.size w (((((W2.setCell ⟨w.heap.size, 0, none⟩ (.int .i64 A)).setCell ⟨w.heap.size, 1, none⟩ (.int .i64 B)).setCell ⟨w.heap.size, 2, none⟩ (.int .i64 hc)).setCell ⟨w.heap.size, 3, none⟩ (.int .i64 hd)).setCell ⟨w.heap.size, 4, none⟩ (.int .i64 he)) := ((((hB2.setCell (Nat.le_refl _) _).setCell (Nat.le_refl _) _).setCell (Nat.le_refl _) _).setCell (Nat.le_refl _) _).setCell (Nat.le_refl _) _
  go_wp2_with fail
  generalize hW3 : ((((W2.setCell ⟨w.heap.size, 0, none⟩ (.int .i64 A)).setCell ⟨w.heap.size, 1, none⟩ (.int .i64 B)).setCell ⟨w.heap.size, 2, none⟩ (.int .i64 hc)).setCell ⟨w.heap.size, 3, none⟩ (.int .i64 hd)).setCell ⟨w.heap.size, 4, none⟩ (.int .i64 he) = W3 at *
  clear hW3 c0 c1 c2 c3 c4 f0 f1 f2 f3 f4 hG2 hB2
  refine (New_any _).mono ?_
  rintro e w4 ⟨rfl, hw4⟩
  have HW4 := hide hw4
  clear hw4
  go_wp2_with fail
  refine (RNew_any _).mono ?_
  rintro e w5 ⟨rfl, hw5⟩
  have hs4 : w4.heap.size = W3.heap.size + 1 := by rw [HW4.out]; simp
  have hw5' : w5 = (W3.alloc (.cells (pcells PSt.zero none) 67)).alloc (.cells (rcells PSt.zero (.slice none 0 0)) 45) := by rw [hw5, HW4.out]
  have HW5 := hide hw5'
  rw [hs4]
  have hb5 : Below W3.heap.size W3 w5 := by rw [hw5']; exact ((Below.refl _ _).alloc (Nat.le_refl _) _).alloc (by simp) _
  have hs3lt : w.heap.size < W3.heap.size := hG3.lt
  clear hw5 hw5' HW4 hs4
  have hG5 := hG3.below hb5 hs3lt
  have c0 := hG5.cell 0
  have c1 := hG5.cell 1
  have c2 := hG5.cell 2
  have c3 := hG5.cell 3
  have c4 := hG5.cell 4
  simp at c0 c1 c2 c3 c4
  have hnn := fun po => NewNor_right w5 A B hc hd he po hr
  unfold gcells at hnn
  go_wp2_with fail
  refine (hnn _).mono ?_
  rintro e w6 ⟨k, bb, eb, rfl, hm6⟩
  have hb6 := hb5.trans (hm6.below.mono hb5.size)
  have hG6 := hG3.below hb6 hs3lt
  clear c0 c1 c2 c3 c4 hG5 hnn
  have c0 := hG6.cell 0
  have c1 := hG6.cell 1
  have c2 := hG6.cell 2
  have c3 := hG6.cell 3
  have c4 := hG6.cell 4
  simp at c0 c1 c2 c3 c4
  have hnr := fun po => RNewNor_right w6 A B hc hd he po hr
  unfold gcells at hnr
  go_wp2_with fail
  refine (hnr _).mono ?_
  rintro e w7 ⟨k', bb', eb', rfl, hm7⟩
  have hT := two_made (w0 := W3) (Below.refl _ _) HW5.out hm6 hm7
  have ok := NSt.new_ok hr 0
  have hNg : (NSt.new A B hc hd he).A = A ∧ (NSt.new A B hc hd he).B = B ∧ (NSt.new A B hc hd he).c = hc ∧ (NSt.new A B hc hd he).d = hd ∧ (NSt.new A B hc hd he).e = he := ⟨rfl, rfl, rfl, rfl, rfl⟩
  clear c0 c1 c2 c3 c4 hG6 hnr hm6 hm7 HW5 hb5 hb6 hr
  generalize hL : (⟨k, W3.heap.size, bb, eb⟩ : Lay) = L at *
  generalize hM : (⟨k', W3.heap.size + 1, bb', eb'⟩ : Lay) = M at *
  obtain rfl : k = L.c := by rw [← hL]
  obtain rfl : k' = M.c := by rw [← hM]
  have hLp : W3.heap.size = L.pb := by rw [← hL]
  have hMp : W3.heap.size + 1 = M.pb := by rw [← hM]
  clear hL hM
  rw [hMp, hLp]
  have HLP := hide hLp
  clear hLp hMp
  generalize hbase : w7.heap.size = base at *
  generalize NSt.new A B hc hd he = N at *
  have hG7 := hG3.below hT.below hs3lt
  have hH7 : HoldQ w7 w.heap.size A B hc hd he w7 := ⟨⟨(hG7.cell 0).trans rfl, (hG7.cell 1).trans rfl, (hG7.cell 2).trans rfl, (hG7.cell 3).trans rfl, (hG7.cell 4).trans rfl⟩, hG7, Below.refl _ _⟩
  have hne := fun w => neGeo w A B hc hd he
  have hnp := fun w => nePow w ⟨L.pb, 0, none⟩
  go_wp2_with fail
  go_region_held3 (fun w' => (w'.cell? ⟨w.heap.size, 0, none⟩ = some (.int .i64 A) ∧ w'.cell? ⟨w.heap.size, 1, none⟩ = some (.int .i64 B) ∧ w'.cell? ⟨w.heap.size, 2, none⟩ = some (.int .i64 hc) ∧ w'.cell? ⟨w.heap.size, 3, none⟩ = some (.int .i64 hd) ∧ w'.cell? ⟨w.heap.size, 4, none⟩ = some (.int .i64 he)) ∧ (Blk w' w.heap.size (gcells A B hc hd he) 23 ∧ Below w7.heap.size w7 w'))
    (first
      | assumption
      | exact holdQ_below hb41 (by assumption)
      | exact holdQ_below hb42 (by assumption)
      | exact holdQ_drew (by assumption))
    (first
      | (go_at_call 12; refine (awake_any _).mono ?_; rintro e w41 ⟨rfl, hb41⟩)
      | (go_at_call 13; refine (Geometry_any base _ L N (Two.below' hT (And.right (And.right (by assumption : HoldQ w7 w.heap.size A B hc hd he _)))).dev.2).mono ?_; rintro e w42 ⟨rfl, hb42⟩; rw [hNg.1, hNg.2.1, hNg.2.2.1, hNg.2.2.2.1, hNg.2.2.2.2]; unfold gcells)
      | (go_at_call 14; refine (Power_any base _ L N (Two.below' hT (And.right (And.right (by assumption : HoldQ w7 w.heap.size A B hc hd he _)))).dev.2).mono ?_; rintro e w43 ⟨rfl, rfl⟩))
  have hBW := hB3
  have hszW : W3.heap.size ≤ base := by have := hT.loL.1; have := hT.dev.2.lt.1; omega
  have hA1 : N.A = A := hNg.1
  have hB1 : N.B = B := hNg.2.1
  have HN : Hid (N.A = A ∧ N.B = B) := ⟨hA1, hB1⟩
  have hbigN := ok.big
  rw [hA1, hB1] at hbigN
  generalize hlb : A * B = lenB at *
  have HLB := hide hlb
  clear hlb hNg hne hnp hG7 hH7 hA1 hB1
  go_wp2_with fail
  go_loopw [11] (fun i wr => ∃ k : Nat, k ≤ len ∧ k ≤ 60 ∧ i = .int .i64 k ∧ ∃ (S : PSt) (N' : NSt), S.Ok (301 * k) ∧ N'.Ok (301 * k) ∧ (N'.A = A ∧ N'.B = B) ∧ Two W3 base wr L M S N' S N') (fun i _ => len - (intOf i).toNat)
  case atStart => exact ⟨0, Nat.zero_le _, Nat.zero_le _, rfl, PSt.zero, N, PSt.zero_ok _, ok, HN.out, Two.below' hT (And.right (And.right (by assumption : HoldQ w7 w.heap.size A B hc hd he _)))⟩
  case round =>
    obtain ⟨k, hk, hk2, rfl, S, N', hS, hN, hNAB, hTk⟩ := hrel
    have hBk := hB3.trans (hTk.below.mono (by omega))
    clear hT
    by_cases hlt : k < len ∧ k < 60
    · obtain ⟨hlt1, hlt2⟩ := hlt
      obtain ⟨bl, off, cap', hv, hbl, hcs⟩ := HS.out.at (by rw [HL0.out]; omega) (by intro x; simp [OpN.cells])
      obtain ⟨rfl, rfl⟩ : ao = some ⟨bl, off, none⟩ ∧ cap = cap' := by rw [HL0.out] at hv; simpa using hv
      obtain ⟨o, ho⟩ : ∃ o, ops[k]? = some o := ⟨_, List.getElem?_eq_getElem (by rw [HL0.out]; omega)⟩
      have hook := HOK.out o (List.mem_of_getElem? ho)
      have hc' : ∀ j u, o.cells[j]? = some u → wr.cell? ⟨bl, off + k * 5 + j, none⟩ = some u := fun j u hu => (hBk.cell (p := ⟨bl, off + k * 5 + j, none⟩) (by simp; omega)).trans (hcs k o ho j u hu)
      have d0 := hc' 0 _ rfl
      have d1 := hc' 1 _ rfl
      have d2 := hc' 2 _ rfl
      have d3 := hc' 3 _ rfl
      have d4 := hc' 4 _ rfl
      obtain ⟨kind, p, n, mask, bvv, b⟩ := o
      obtain ⟨q0, q1, q2, q3, q4⟩ := hook
      simp at d0 d1 d2 d3 d4 q0 q1 q2 q3 q4
      have hlt3 : (k : Int) < 60 := by omega
      clear hcs hc' ho hv
      have rb := q4.bytes
      obtain ⟨lo, lcap, rfl⟩ := rb.of_len
      have HRB := hide rb
      have hlm2 := rb.len
      unfold maxLen at hlm2
      clear q4 rb
      generalize hll : b.length = ln at *
      have HLL := hide hll
      clear hll
      generalize hob : wr.heap.size = ob at *
      have hobb : base ≤ ob := hob ▸ hTk.size
      have hT1 := hTk.alloc (.cells #[.int .i64 kind, .int .i64 p, .int .i64 n, .int .u8 mask, .slice lo ln lcap] 41)
      have hO1 : Blk (wr.alloc (.cells #[.int .i64 kind, .int .i64 p, .int .i64 n, .int .u8 mask, .slice lo ln lcap] 41)) ob #[.int .i64 kind, .int .i64 p, .int .i64 n, .int .u8 mask, .slice lo ln lcap] 41 := hob ▸ Blk.new wr _ _
      have e0 := hTk.ref.1.cells.1
      have hlM := hTk.ref.2.lt
      clear hTk hBk
      go_upto_block 2 with fail
      go_cut [13, 14, 15, 16] (fun s13 s14 s15 s16 wx => s13 = .bool true ∧ ∃ (S2 : PSt) (N2 : NSt), Two W3 base wx L M S2 N2 S2 N2 ∧ Blk wx ob #[.int .i64 kind, .int .i64 p, .int .i64 n, .int .u8 mask, .slice lo ln lcap] 41 ∧ S2.Ok (301 * (k + 1)) ∧ N2.Ok (301 * (k + 1)) ∧ N2.A = A ∧ N2.B = B)
      case first =>
        refine (Classical.em (kind = 1)).elim (fun hk1 => ?k1) (fun hk1 => (Classical.em (kind = 2)).elim (fun hk2 => ?k2) (fun hk2 => (Classical.em (kind = 3)).elim (fun hk3 => ?k3) (fun hk3 => ?k4)))
        case k1 => as_aux_lemma =>
          subst hk1
          go_wp2_with fail
          generalize wr.alloc (.cells #[.int .i64 1, .int .i64 p, .int .i64 n, .int .u8 mask, .slice lo ln lcap] 41) = W at *
          have b1 : W.cell? ⟨ob, 1, none⟩ = some (.int .i64 p) := (hO1.cell 1).trans rfl
          have hT1d := hT1.still (only_drew W)
          go_region_held3 (fun w' => w'.cell? ⟨ob, 1, none⟩ = some (.int .i64 p))
            (first
              | assumption
              | exact cell_only hO50 (hT1d.farL hobb) (by assumption)
              | exact cell_only hO51 (hT1d.farR hobb) (by assumption))
            (first
              | (go_at_call 15; refine (Erase_any base _ L S N' (301 * k) (by exact hT1d.dev) hS hN (by omega) p).mono ?_; rintro e w50 ⟨rfl, hD50, hO50⟩)
              | (go_at_call 16; refine (RErase_any base _ M S N' (301 * k) (by exact (hT1d.turnL hD50 hO50).ref) hS hN (by omega) p q1).mono ?_; rintro e WZ ⟨rfl, hD51, hO51⟩))
          have hT2 := (hT1d.turnL hD50 hO50).turnR hD51 hO51
          have hO2 := ((hO1.only (only_drew W) (by simp)).only hO50 (hT1d.farL hobb)).only hO51 (hT1d.farR hobb)
          have hNS := eraseA_ok (s := p) hS hN
          have hAB : (eraseA S N' p).2.2.A = A ∧ (eraseA S N' p).2.2.B = B := by
            unfold eraseA
            split
            · split
              · exact hNAB
              · split <;> exact hNAB
            · exact hNAB
          generalize eraseA S N' p = E at *
          obtain ⟨eE, S2, N2⟩ := E
          simp only at hT2 hNS hAB
          have hS2 : S2.Ok (301 * (k + 1)) := hNS.1.more (by omega)
          have hN2 : N2.Ok (301 * (k + 1)) := hNS.2.more (by omega)
          clear hNS hT1 hT1d hO1 hD50 hO50 hD51 hO51 b1 d0 d1 d2 d3 d4 e0
          go_wp2
          go_meet
          exact ⟨rfl, S2, N2, hT2, hO2, hS2, hN2, hAB⟩
        case' k2 =>
          subst hk2
          have eW := hT1.ref.1.cells.1
          have c6W := hT1.ref.2.bytesCell
          rw [hNAB.1, hNAB.2, HLB.out] at c6W
          refine (Classical.em (S.off = true)).elim (fun hoff => ?k2a) (fun hoff => ?k2b)
        case k2a =>
          rw [hoff] at e0 eW
          go_wp2_with fail
          generalize wr.alloc (.cells #[.int .i64 2, .int .i64 p, .int .i64 n, .int .u8 mask, .slice lo ln lcap] 41) = WZ at *
          have hT2 := hT1
          have hO2 := hO1
          obtain ⟨S2, rfl⟩ : ∃ x, x = S := ⟨_, rfl⟩
          obtain ⟨N2, rfl⟩ : ∃ x, x = N' := ⟨_, rfl⟩
          have hAB := hNAB
          have hS2 : S2.Ok (301 * (k + 1)) := hS.more (by omega)
          have hN2 : N2.Ok (301 * (k + 1)) := hN.more (by omega)
          clear hT1 hO1 d0 d1 d2 d3 d4 e0 eW c6W hoff
          go_wp2
          go_meet
          exact ⟨rfl, S2, N2, hT2, hO2, hS2, hN2, hAB⟩
        case k2b =>
          have hoff' : S.off = false := by simpa using hoff
          rw [hoff'] at e0 eW
          go_wp2_with fail
          generalize wr.alloc (.cells #[.int .i64 2, .int .i64 p, .int .i64 n, .int .u8 mask, .slice lo ln lcap] 41) = W at *
          refine (CutN_any base W L.pb S n mask hT1.dev.1).mono ?_
          rintro e wc ⟨rfl, hPc, hgc⟩
          have hTc := hT1.powL hPc hgc
          have hOc := hO1.only (only_grown (l := [L.pb, L.bb, L.eb]) hgc (fun k e => by cases e; simp)) (hT1.farL hobb)
          have g2 : wc.cell? ⟨ob, 2, none⟩ = some (.int .i64 n) := (hOc.cell 2).trans rfl
          have g3 : wc.cell? ⟨ob, 3, none⟩ = some (.int .u8 mask) := (hOc.cell 3).trans rfl
          clear hPc hgc d0 d1 d2 d3 d4 e0 eW c6W
          go_wp2_with fail
          refine (RCutN_any base wc M.pb S n mask hTc.ref.1).mono ?_
          rintro e WZ ⟨rfl, hPx, hgx⟩
          have hT2 := hTc.powR hPx hgx
          have hO2 := hOc.only (only_grown (l := [M.pb, M.bb, M.eb]) hgx (fun k e => by cases e; simp)) (hTc.farR hobb)
          have hS2 : (S.cut n mask).Ok (301 * (k + 1)) := (hS.cut q2 q3).more (by omega)
          generalize S.cut n mask = S2 at *
          obtain ⟨N2, rfl⟩ : ∃ x, x = N' := ⟨_, rfl⟩
          have hAB := hNAB
          have hN2 : N2.Ok (301 * (k + 1)) := hN.more (by omega)
          clear hT1 hO1 hTc hOc g2 g3 hPx hgx hoff hoff'
          go_wp2
          go_meet
          exact ⟨rfl, S2, N2, hT2, hO2, hS2, hN2, hAB⟩
        case k3 => as_aux_lemma =>
          subst hk3
          go_wp2_with fail
          generalize wr.alloc (.cells #[.int .i64 3, .int .i64 p, .int .i64 n, .int .u8 mask, .slice lo ln lcap] 41) = W at *
          refine (OnN_any base W L.pb S hT1.dev.1).mono ?_
          rintro e wc ⟨rfl, hPc, hgc⟩
          have hTc := hT1.powL hPc hgc
          have hOc := hO1.only (only_grown (l := [L.pb, L.bb, L.eb]) hgc (fun k e => by cases e; simp)) (hT1.farL hobb)
          clear hPc hgc d0 d1 d2 d3 d4 e0
          go_wp2_with fail
          refine (ROnN_any base wc M.pb S hTc.ref.1).mono ?_
          rintro e WZ ⟨rfl, hPx, hgx⟩
          have hT2 := hTc.powR hPx hgx
          have hO2 := hOc.only (only_grown (l := [M.pb, M.bb, M.eb]) hgx (fun k e => by cases e; simp)) (hTc.farR hobb)
          have hS2 : S.on.Ok (301 * (k + 1)) := hS.on.more (by omega)
          generalize S.on = S2 at *
          obtain ⟨N2, rfl⟩ : ∃ x, x = N' := ⟨_, rfl⟩
          have hAB := hNAB
          have hN2 : N2.Ok (301 * (k + 1)) := hN.more (by omega)
          clear hT1 hO1 hTc hOc hPx hgx
          go_wp2
          go_meet
          exact ⟨rfl, S2, N2, hT2, hO2, hS2, hN2, hAB⟩
        case k4 => as_aux_lemma =>
          have hBT := hB3.trans (hT1.below.mono (by omega))
          by_cases hbig : (300 : Int) < ln
          case pos =>
            go_wp2
            go_ret
            exact ⟨rfl, hBT⟩
          have hln : ln ≤ 300 := by omega
          have hrb1 := HRB.out.below hBT
          have hsz1 : ob + 1 ≤ (wr.alloc (.cells #[.int .i64 kind, .int .i64 p, .int .i64 n, .int .u8 mask, .slice lo ln lcap] 41)).heap.size := hO1.lt
          go_wp2_with (at_builtin; refine wpList_append_row rfl _ _ rfl (ob + 1) _ _ [] b rfl (Own.nil _ _) rfl hrb1 (by rw [List.length_nil, HLL.out]; omega) hsz1 ?_)
          intro v14 wa hown hga
          try rw [List.nil_append] at hown
          have hTa := hT1.still (only_grown hga (fun k e => by cases e))
          have hOa := hO1.kept hga (by simp [Value.ownBlock])
          obtain ⟨xo, xcap, rfl⟩ := hown.row.of_len
          rw [HLL.out] at hown ⊢
          clear hga hrb1 hsz1 hT1 hO1 d0 d1 d2 d3 d4 e0 hBT
          have hbk : base ≤ ob + 1 := by omega
          go_upto_block 3 with fail
          go_cut [15] (fun s15 wx => ∃ xs : List Int, xs.length = ln ∧ Own (ob + 1) wx (.slice xo ln xcap) xs ∧ Two W3 base wx L M S N' S N' ∧ Blk wx ob #[.int .i64 kind, .int .i64 p, .int .i64 n, .int .u8 mask, .slice lo ln lcap] 41)
          case first => as_aux_lemma =>
            go_wp2_with fail
            go_loopw [15] (fun i wr => ∃ j : Nat, j ≤ ln ∧ i = .int .i64 j ∧ ∃ xs : List Int, xs.length = ln ∧ Own (ob + 1) wr (.slice xo ln xcap) xs ∧ Two W3 base wr L M S N' S N' ∧ Blk wr ob #[.int .i64 kind, .int .i64 p, .int .i64 n, .int .u8 mask, .slice lo ln lcap] 41) (fun i _ => ln - (intOf i).toNat)
            case atStart => exact ⟨0, Nat.zero_le _, rfl, b, HLL.out, hown, hTa, hOa⟩
            case round =>
              clear hown hTa hOa
              obtain ⟨j, hj, rfl, xs, hxs, hown, hTj, hOj⟩ := hrel
              have b0 : wr.cell? ⟨ob, 0, none⟩ = some (.int .i64 kind) := (hOj.cell 0).trans rfl
              have b1 : wr.cell? ⟨ob, 1, none⟩ = some (.int .i64 p) := (hOj.cell 1).trans rfl
              have c6 : wr.cell? ⟨M.c, 6, none⟩ = some (.slice (some ⟨M.bb, 0, none⟩) lenB lenB) := by
                have := hTj.ref.2.bytesCell
                rwa [hNAB.1, hNAB.2, HLB.out] at this
              have hme : ∀ m, ∃ xs : List Int, xs.length = ln ∧ Own (ob + 1) (wr.drewN m) (.slice xo ln xcap) xs ∧ Two W3 base (wr.drewN m) L M S N' S N' ∧ Blk (wr.drewN m) ob #[.int .i64 kind, .int .i64 p, .int .i64 n, .int .u8 mask, .slice lo ln lcap] 41 := fun m => ⟨xs, hxs, hown.kept (below_drewN wr m), hTj.still (only_drewN _ _), hOj.only (only_drewN wr m) (by simp)⟩
              have HME := hide hme
              clear hme
              by_cases hjl : j < ln
              · have hjl' : (j : Int) < ln := by omega
                by_cases h4 : kind = 4
                · by_cases hp0 : 0 ≤ p
                  · by_cases hpl : p < (lenB : Int) - ln
                    · subst h4
                      have hpd : decide (p < (lenB : Int) - ln) = true := decide_eq_true hpl
                      obtain ⟨g, cap2, hv, hg1, hg2, _⟩ := hown.form (by omega)
                      obtain ⟨rfl, rfl⟩ : xo = some ⟨g, 0, none⟩ ∧ xcap = cap2 := by rw [hxs] at hv; simpa using hv
                      clear hv HME
                      have e1 := hown.cellAt hxs j hjl
                      have e2 := hown.frozenAt hxs j
                      obtain ⟨P, rfl⟩ : ∃ P : Nat, p = P := ⟨p.toNat, by omega⟩
                      have e3 := hTj.ref.2.byte (j := P + j) (by rw [hN.len, hNAB.1, hNAB.2, HLB.out]; omega)
                      have hy : 0 ≤ bits .and .u8 (xs.getD j 0) (N'.bs.getD (P + j) 0) ∧ bits .and .u8 (xs.getD j 0) (N'.bs.getD (P + j) 0) < 256 := bits_u8 _ _ _
                      generalize xs.getD j 0 = x at *
                      generalize N'.bs.getD (P + j) 0 = y at *
                      have hwr : IntKind.i64.wrap ((P : Int) + (j : Int)) = ((P + j : Nat) : Int) := by rw [i64_in _ (by omega)]; omega
                      have hq : P + j < lenB := by omega
                      generalize P + j = q at *
                      have R0 : ∀ m, ∃ ys : List Int, ys.length = ln ∧ Own (ob + 1) ((wr.drewN m).drew.setCell ⟨g, j, none⟩ (.int .u8 (bits .and .u8 x y))) (.slice (some ⟨g, 0, none⟩) ln xcap) ys ∧ Two W3 base ((wr.drewN m).drew.setCell ⟨g, j, none⟩ (.int .u8 (bits .and .u8 x y))) L M S N' S N' ∧ Blk ((wr.drewN m).drew.setCell ⟨g, j, none⟩ (.int .u8 (bits .and .u8 x y))) ob #[.int .i64 4, .int .i64 P, .int .i64 n, .int .u8 mask, .slice lo ln lcap] 41 := by
                        intro m
                        have hon := only_setCell (wr.drewN m).drew g j (.int .u8 (bits .and .u8 x y)) [g] (by simp)
                        exact ⟨xs.set j (bits .and .u8 x y), by simp [hxs], ((hown.kept (below_drewN wr m)).kept (below_drewN _ 1)).stored hxs j _ hy, ((hTj.still (only_drewN wr m)).still (only_drew _)).other hon (by omega), ((hOj.only (only_drewN wr m) (by simp)).only (only_drew _) (by simp)).only hon (by simp; omega)⟩
                      have HR0 := hide R0
                      clear R0
                      go_wp2_with fail
                      go_quiet (fail)
                      go_wp2_with fail
                      refine still_tail_drew 16 (by kernel_rfl) (by kernel_rfl) ?_
                      simp only [List.take_succ_cons, List.take_zero, List.drop_succ_cons, List.drop_zero]
                      repeat still_step
                      refine wpStill_nil ?_
                      go_wp2
                      exact ⟨⟨j + 1, by omega, by go_num, HR0.out _⟩, by simp [intOf]; omega⟩
                    · subst h4
                      have hpd : decide (p < (lenB : Int) - ln) = false := decide_eq_false hpl
                      have hpl2 : (lenB : Int) - ln ≤ p := by omega
                      clear hpl
                      go_wp2_with fail
                      go_quiet (fail)
                      go_wp2
                      go_meet
                      exact HME.out _
                  · subst h4
                    clear c6
                    have hpz : decide (0 ≤ p) = false := decide_eq_false hp0
                    clear hp0
                    go_wp2_with fail
                    go_quiet (fail)
                    go_wp2
                    go_meet
                    exact HME.out _
                · have h4b : (kind == 4) = false := by simpa using h4
                  clear c6 b1
                  go_wp2_with fail
                  go_quiet (fail)
                  go_wp2
                  go_meet
                  exact HME.out _
              · have hjl' : ¬ (j : Int) < ln := by omega
                go_wp2_with fail
                go_quiet (fail)
                go_wp2
                go_meet
                exact HME.out _
          case rest => as_aux_lemma =>
            clear hown hTa hOa
            obtain ⟨xs, hxs, hownc, hTc, hOc⟩ := hcut
            have hoa := Own_any wc _ xs 71 hownc.row (by omega)
            rw [hxs] at hoa
            have hgi : base ≤ wc.heap.size := hTc.size
            go_wp2_with fail
            refine hoa.mono ?_
            rintro e wd ⟨rfl, hin, hbd⟩
            have hTd := (hTc.below' hbd).still (only_drew wd)
            have hOd := (hOc.below hbd hOc.lt)
            have hownd := hownc.kept hbd
            generalize wc.heap.size = gi at *
            have hinr : Row wd (.slice (some ⟨gi, 0, none⟩) ln (ln + 3)) xs := by
              have hc := owns_cut hin (n := ln) (by omega)
              rw [List.take_left' (by rw [bv_length, hxs])] at hc
              have : Own gi wd (.slice (some ⟨gi, 0, none⟩) ln (ln + 3)) xs := ⟨by rw [hxs]; exact hc, hownd.2⟩
              exact this.row
            have b1 : wd.cell? ⟨ob, 1, none⟩ = some (.int .i64 p) := (hOd.cell 1).trans rfl
            have hpg := Program_any base wd.drew L S N' (301 * k) hTd.dev hS hN (by omega) p q1 (.slice (some ⟨gi, 0, none⟩) ln (ln + 3)) xs (hinr.below (Below.refl _ _).drew) (by omega) (by intro _ vb off n cap e; cases e; have := hTd.farL hgi; simp at this ⊢; omega)
            have hrp : ∀ w50, Dev base w50 L (progA S N'.bs p xs).2.1 { N' with bs := (progA S N'.bs p xs).2.2 } → Only [L.pb, L.bb] wd.drew w50 → _ := fun w50 hD50 hO50 => RProgram_any base w50 M S N' (301 * k) (hTd.turnL hD50 (hO50.wide (by simp))).ref hS hN (by omega) p q1 (.slice xo ln xcap) xs ((hownd.row.below (Below.refl _ _).drew).only hO50 (fun b off n cap e => by have := hownd.from b off n cap e; have := hTd.farL (g := b) (by omega); simp at this ⊢; omega)) (by omega) (by intro _ vb off n cap e; have := hownd.from vb off n cap e; have := hTd.farR (g := vb) (by omega); simp at this ⊢; omega)
            have hkp : ∀ w50 w51, Only [L.pb, L.bb] wd.drew w50 → Only [M.pb, M.bb] w50 w51 → Calls Try.prog 24 #[.slice (some ⟨gi, 0, none⟩) ln (ln + 3), .slice xo ln xcap, .int .u8 71] w51 fun e w' => e = .returned (.bool true) ∧ Still w51 w' := by
              intro w50 w51 ho1 ho2
              have f1 : ∀ g, base ≤ g → g ∉ [L.pb, L.bb] ∧ g ∉ [M.pb, M.bb] := fun g hg => ⟨by have := hTd.farL hg; simp at this ⊢; omega, by have := hTd.farR hg; simp at this ⊢; omega⟩
              have hr := ((hownd.row.below (Below.refl _ _).drew).only ho1 (fun b off n cap e => (f1 b (by have := hownd.from b off n cap e; omega)).1)).only ho2 (fun b off n cap e => (f1 b (by have := hownd.from b off n cap e; omega)).2)
              have hi := owns_only (owns_only (owns_only hin (only_drew wd) (by simp)) ho1 (fun g e => by cases e; exact (f1 _ hgi).1)) ho2 (fun g e => by cases e; exact (f1 _ hgi).2)
              have := Kept_any w51 gi gi (.slice xo ln xcap) xs 71 (by omega) hr (by omega) (by rw [hxs]; exact hi)
              rwa [hxs] at this
            have HPG := hide hpg
            have HRP := hide hrp
            have HKP := hide hkp
            clear hpg hrp hkp
            go_wp2_with fail
            go_region_held3 (fun w' => w'.cell? ⟨ob, 1, none⟩ = some (.int .i64 p))
              (first
                | assumption
                | exact cell_only (hO50.wide (by simp)) (hTd.farL hobb) (by assumption)
                | exact cell_only (hO51.wide (by simp)) (hTd.farR hobb) (by assumption)
                | exact (hst52.cell _).trans (by assumption))
              (first
                | (go_at_call 22; refine HPG.out.mono ?_; rintro e w50 ⟨rfl, hD50, hO50⟩)
                | (go_at_call 23; refine (HRP.out w50 hD50 hO50).mono ?_; rintro e w51 ⟨rfl, hD51, hO51⟩)
                | (go_at_call 24; refine (HKP.out w50 w51 hO50 hO51).mono ?_; rintro e WZ ⟨rfl, hst52⟩))
            have hT2 := ((hTd.turnL hD50 (hO50.wide (by simp))).turnR hD51 (hO51.wide (by simp))).below' (hst52 _)
            have hO2 := (((hOd.only (only_drew wd) (by simp)).only (hO50.wide (by simp)) (hTd.farL hobb)).only (hO51.wide (by simp)) (hTd.farR hobb)).below (hst52 _) (Nat.lt_succ_self _)
            have hok2 := progA_ok (p := p) hS hN.bys hownd.2
            have hN2a := hN.bytes hok2.2.1 hok2.2.2
            have hAB : ({ N' with bs := (progA S N'.bs p xs).2.2 } : NSt).A = A ∧ ({ N' with bs := (progA S N'.bs p xs).2.2 } : NSt).B = B := hNAB
            have hS2 : (progA S N'.bs p xs).2.1.Ok (301 * (k + 1)) := hok2.1.more (by omega)
            have hN2 : ({ N' with bs := (progA S N'.bs p xs).2.2 } : NSt).Ok (301 * (k + 1)) := hN2a.more (by omega)
            generalize ({ N' with bs := (progA S N'.bs p xs).2.2 } : NSt) = N2 at *
            generalize (progA S N'.bs p xs).2.1 = S2 at *
            clear hok2 hN2a hownc hTc hOc hoa hin hinr hbd hTd hOd hownd HPG HRP HKP hD50 hO50 hD51 hO51 hst52 b1
            go_wp2
            go_meet
            exact ⟨rfl, S2, N2, hT2, hO2, hS2, hN2, hAB⟩
      case rest => as_aux_lemma =>
        clear hT1 hO1 d0 d1 d2 d3 d4 e0
        obtain ⟨rfl, S2, N2, hT2, hO2, hS2, hN2, hA2, hB2'⟩ := hcut
        have hlen2 := hN2.len
        have hbig2 := hN2.big
        rw [hA2, hB2', HLB.out] at hlen2 hbig2
        have c6 : wc.cell? ⟨M.c, 6, none⟩ = some (.slice (some ⟨M.bb, 0, none⟩) lenB lenB) := by
          have := hT2.ref.2.bytesCell
          rwa [hA2, hB2', HLB.out] at this
        have hrd := Read_any base wc L N2 (301 * (k + 1)) hT2.dev.2 hN2 0 lenB (by decide) (wf_i64 (by omega) (by omega))
        rw [read_all' N2.bs lenB hlen2] at hrd
        try go_wp2_with fail
        refine hrd.mono ?_
        rintro e wx ⟨vx, rfl, hownx, hbx⟩
        have hT3 := hT2.below' hbx
        have hO3 := hO2.below hbx hO2.lt
        have hrx := hownx.row
        obtain ⟨xo, xcap, rfl⟩ := hrx.of_len
        have g1 : wx.cell? ⟨ob, 1, none⟩ = some (.int .i64 p) := (hO3.cell 1).trans rfl
        have g2 : wx.cell? ⟨ob, 2, none⟩ = some (.int .i64 n) := (hO3.cell 2).trans rfl
        rw [hlen2] at hrx ⊢
        have hrd2 := Read_any base wx L N2 (301 * (k + 1)) hT3.dev.2 hN2 p n q1 q2
        clear hrd hownx hbx hT2 hO2 c6
        go_wp2_with fail
        refine hrd2.mono ?_
        rintro e wy ⟨vy, rfl, howny, hby⟩
        have hT4 := hT3.below' hby
        have hO4 := hO3.below hby hO3.lt
        have hrx4 := hrx.below hby
        have hry := howny.row
        obtain ⟨yo, ycap, rfl⟩ := hry.of_len
        have g1' : wy.cell? ⟨ob, 1, none⟩ = some (.int .i64 p) := (hO4.cell 1).trans rfl
        have g2' : wy.cell? ⟨ob, 2, none⟩ = some (.int .i64 n) := (hO4.cell 2).trans rfl
        have hrd3 := RRead_any base wy M N2 (301 * (k + 1)) hT4.ref.2 hN2 p n q1 q2
        clear hrd2 howny hby hT3 hO3 hrx g1 g2
        go_wp2_with fail
        refine hrd3.mono ?_
        rintro e wz ⟨vz, rfl, hownz, hbz⟩
        have hT5 := hT4.below' hbz
        have hO5 := hO4.below hbz hO4.lt
        have hrx5 := hrx4.below hbz
        have hry5 := hry.below hbz
        have hrz5 := hownz.row
        obtain ⟨zo, zcap, rfl⟩ := hrz5.of_len
        have g1 : wz.cell? ⟨ob, 1, none⟩ = some (.int .i64 p) := (hO5.cell 1).trans rfl
        have c6 : wz.cell? ⟨M.c, 6, none⟩ = some (.slice (some ⟨M.bb, 0, none⟩) lenB lenB) := by
          have := hT5.ref.2.bytesCell
          rwa [hA2, hB2', HLB.out] at this
        have cst := hT5.ref.1.cells.2.2
        have hrB := hT5.ref.2.rowAll hN2
        rw [hA2, hB2', HLB.out] at hrB
        clear hrd3 hownz hbz hT4 hO4 hrx4 hry g1' g2'
        generalize hry0 : readS N2.bs p n = RR at *
        obtain ⟨re, rl⟩ := RR
        simp only at hry5 hrz5
        have hfin : ∀ m, Two W3 base (wz.drewN m) L M S2 N2 S2 N2 := fun m => hT5.still (only_drewN _ _)
        have hD := hfin
        have hrx6 := fun m => hrx5.below (below_drewN wz m)
        have hry6 := fun m => hry5.below (below_drewN wz m)
        have hrz6 := fun m => hrz5.below (below_drewN wz m)
        have hrB6 := fun m => hrB.below (below_drewN wz m)
        simp only
        generalize rl.length = ll at *
        have qa : ∀ m, Calls Try.prog 27 #[.slice xo lenB xcap, .slice (some ⟨M.bb, 0, none⟩) lenB lenB] (wz.drewN m) fun e w' => e = .returned (.bool true) ∧ w' = wz.drewN m := by
          intro m
          have hq := Bytes_any _ _ _ _ _ (hrx6 m) (hrB6 m)
          rwa [decide_eq_true rfl] at hq
        have qb : ∀ m, Calls Try.prog 27 #[.slice yo ll ycap, .slice zo ll zcap] (wz.drewN m) fun e w' => e = .returned (.bool true) ∧ w' = wz.drewN m := by
          intro m
          have hq := Bytes_any _ _ _ _ _ (hry6 m) (hrz6 m)
          rwa [decide_eq_true rfl] at hq
        have qc := fun m => Erases_any base (wz.drewN m) L N2 _ (hfin m).dev.2 hN2 p
        have qd := fun m => RErases_any base (wz.drewN m) M N2 _ (hfin m).ref.2 hN2 p
        have qe := fun m => StepsN_any base (wz.drewN m) L.pb S2 (hfin m).dev.1
        generalize (if 0 ≤ p ∧ p < (N2.A : Int) then N2.er.getD p.toNat 0 else 0) = ev at qc qd
        have HQA := hide qa
        have HQB := hide qb
        have HQC := hide qc
        have HQD := hide qd
        have HQE := hide qe
        have HFIN := hide hfin
        clear qa qb qc qd qe hrx6 hry6 hrz6 hrB6 hD hfin hT5 hO5 hrB hrx5 hry5 hrz5
        go_wp2_with fail
        go_quiet (first
          | (go_at_call_of 27 (Value.slice xo lenB xcap); exact Calls.quiet_of_same (HQA.out _))
          | (go_at_call_of 27 (Value.slice yo ll ycap); exact Calls.quiet_of_same (HQB.out _))
          | (go_at_call 28; exact Calls.quiet_of_same (HQC.out _))
          | (go_at_call 29; exact Calls.quiet_of_same (HQD.out _))
          | (go_at_call 30; exact Calls.quiet_of_same (HQE.out _)))
        go_wp2
        exact ⟨⟨k + 1, by omega, by omega, by go_num, S2, N2, hS2, hN2, ⟨hA2, hB2'⟩, HFIN.out _⟩, by simp [intOf]; omega⟩
    · by_cases hl2 : (k : Int) < len
      · have hk3 : ¬ ((k : Int) < 60) := by omega
        go_wp2
        go_ret
        exact ⟨rfl, hBk⟩
      · go_wp2
        go_ret
        exact ⟨rfl, hBk⟩
end Go.Proofs.Ytnlfhapnclfonaa
