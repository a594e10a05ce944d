/-
  The walk of garretlaw08.HalfPlays.
-/
import Derived.Test.YtgkgbbffgcmekaaTwoN
import Derived.Test.YtgkgbbffgcmekaaHalfPlaysB1
import Derived.Test.YtgkgbbffgcmekaaHelp
import Derived.Lib.Builder
import Derived.Deep.CutBlock
import Derived.Deep.DeepCutAuto
namespace Go.Proofs.Ytgkgbbffgcmekaa
open Go.RowKit
set_option linter.unusedVariables false
set_option maxRecDepth 100000

/-- One thing that is done. -/
structure OpH where
  kind : Int
  half : Int
  at_ : Int
  n : Int
  mask : Int
  bv : Value
  b : List Int
instance : Inhabited OpH := ⟨⟨0, 0, 0, 0, 0, .slice none 0 0, []⟩⟩
def OpH.cells (o : OpH) : List Value := [.int .i64 o.kind, .int .i64 o.half, .int .i64 o.at_, .int .i64 o.n, .int .u8 o.mask, o.bv]
structure OpH.Ok (w : World) (o : OpH) : Prop where
  kind : (Lit.int .i64 o.kind).wf = true
  half : (Lit.int .i64 o.half).wf = true
  at_ : (Lit.int .i64 o.at_).wf = true
  n : (Lit.int .i64 o.n).wf = true
  mask : (Lit.int .u8 o.mask).wf = true
  b : IRow .u8 w o.bv o.b
theorem opens_oph (w : World) : Opens Try.prog w 40 (fun cs => ∃ o : OpH, cs = o.cells ∧ o.Ok w) := by
  have hI : ∀ w : World, Opens Try.prog w 3 _ := fun w => opens_int Try.underlying3
  have hB : ∀ w : World, Opens Try.prog w 5 _ := fun w => opens_int Try.underlying5
  have hL : ∀ w : World, Opens Try.prog w 38 _ := fun w => opens_ints Try.underlying38 Try.underlying5 (by kernel_rfl)
  intro H enc fuel cs x h
  obtain ⟨xs, n, _, rfl, hl, hlen, hf⟩ := DataW.trod_struct Try.underlying40 h
  have c6 : Try.prog.cellsOf 40 = 6 := by kernel_rfl
  have ci : Try.prog.cellsOf 3 = 1 := by kernel_rfl
  have cb : Try.prog.cellsOf 5 = 1 := by kernel_rfl
  have cl : Try.prog.cellsOf 38 = 1 := by kernel_rfl
  rw [c6] at hl
  match xs, hlen, cs, hl with
  | [y0, y1, y2, y3, y4, y5], _, [v0, v1, v2, v3, v4, v5], _ =>
    have g0 := hf 0 _ rfl
    have g1 := hf 1 _ rfl
    have g2 := hf 2 _ rfl
    have g3 := hf 3 _ rfl
    have g4 := hf 4 _ rfl
    have g5 := hf 5 _ rfl
    simp [ci, cb, cl] at g0 g1 g2 g3 g4 g5
    obtain ⟨a0, h0, p0⟩ := hI w _ _ _ _ _ g0
    obtain ⟨a1, h1, p1⟩ := hI w _ _ _ _ _ g1
    obtain ⟨a2, h2, p2⟩ := hI w _ _ _ _ _ g2
    obtain ⟨a3, h3, p3⟩ := hI w _ _ _ _ _ g3
    obtain ⟨a4, h4, p4⟩ := hB w _ _ _ _ _ g4
    obtain ⟨a5, l, h5, p5⟩ := hL w _ _ _ _ _ g5
    simp at h0 h1 h2 h3 h4 h5
    subst h0 h1 h2 h3 h4 h5
    exact ⟨⟨a0, a1, a2, a3, a4, _, l⟩, rfl, p0, p1, p2, p3, p4, p5⟩
theorem HalfPlays_open1 (w : World) : Opens Try.prog w 24 (fun cs => ∃ v xs, cs = [v] ∧ Seq w 6 OpH.cells v xs ∧ ∀ o ∈ xs, o.Ok w) := by
  have h := opens_slice Try.underlying24 OpH.cells (OpH.Ok w) (opens_oph w)
  rwa [show Try.prog.cellsOf 40 = 6 from by kernel_rfl] at h

theorem cell_only8 {l : List Nat} {w w' : World} {b i : Nat} {u : Value} (hg : Only l w w') (hn : b ∉ l) (h : w.cell? ⟨b, i, none⟩ = some u) : w'.cell? ⟨b, i, none⟩ = some u :=
  (World.cell?_of_block (a := ⟨b, i, none⟩) (hg.block b (World.block_lt_of_cell? w _ h) hn)).trans h
theorem only_two {a b c : Nat} {w w' : World} (h : Only [a, b] w w') : Only [a, b, c] w w' := h.wide (by intro k hk; simp at hk ⊢; omega)

theorem readH_len (N : NSt) (hf : Int) : (readH N hf).2.length ≤ N.bs.length := by
  unfold readH readS
  repeat' split
  all_goals simp
  all_goals omega
theorem readH_code (N : NSt) (hf : Int) : (readH N hf).1 = 0 ∨ (readH N hf).1 = 1 := by
  unfold readH readS
  repeat' split
  all_goals simp
def Hold3 (ob : Nat) (a b c : Value) (w : World) : Prop := w.cell? ⟨ob, 1, none⟩ = some a ∧ w.cell? ⟨ob, 2, none⟩ = some b ∧ w.cell? ⟨ob, 5, none⟩ = some c
theorem hold3_only {ob : Nat} {a b c : Value} {l : List Nat} {w w' : World} (hg : Only l w w') (hn : ob ∉ l) (h : Hold3 ob a b c w) : Hold3 ob a b c w' := ⟨cell_only8 hg hn h.1, cell_only8 hg hn h.2.1, cell_only8 hg hn h.2.2⟩

set_option maxHeartbeats 4000000 in
theorem HalfPlays_walk (ga gb gc gd ge : Int) (v : Value) (ops : List OpH) (w : World) (w0 : GeoOk ga gb gc gd ge) (hs : Seq w 6 OpH.cells v ops) (hok : ∀ o ∈ ops, o.Ok w) :
    Calls Try.prog 3 #[.agg (gcells ga gb gc gd ge), v] w fun e w' => e = .returned (.bool true) ∧ Below w.heap.size w w' := by
  have hlm := hs.len
  unfold maxLen at hlm
  obtain ⟨ao, cap, hv⟩ := hs.of_len
  subst hv
  generalize hL0 : ops.length = len at *
  have HS := hide hs
  have HL0 := hide hL0
  have HOK := hide hok
  clear hs hL0 hok
  have hplay := fun w => play_any w ga gb gc gd ge
  have hB0 : Below w.heap.size w (w.alloc (.cells (gcells ga gb gc gd ge) 23)) := (Below.refl _ _).alloc (Nat.le_refl _) _
  have hG0 : Blk (w.alloc (.cells (gcells ga gb gc gd ge) 23)) w.heap.size (gcells ga gb gc gd ge) 23 := Blk.new w _ _
  unfold gcells at hplay hB0 hG0 ⊢
  go_enter Try.func3, Try.ntmps3
  go_wp2_with fail
  generalize hW1 : w.alloc (.cells #[.int .i64 ga, .int .i64 gb, .int .i64 gc, .int .i64 gd, .int .i64 ge] 23) = W1 at *
  clear hW1
  refine (hplay _).mono ?_
  rintro e W2 ⟨A, B, hc, hd, he, rfl, hr, hb2⟩
  have hs1 := hG0.lt
  have hB2 := hB0.trans (hb2.mono (by omega))
  have hG2 := hG0.below hb2 hG0.lt
  clear hb2 hB0 hG0 hplay
  have c0 := hG2.cell 0
  have c1 := hG2.cell 1
  have c2 := hG2.cell 2
  have c3 := hG2.cell 3
  have c4 := hG2.cell 4
  have f0 := hG2.frozen 0
  have f1 := hG2.frozen 1
  have f2 := hG2.frozen 2
  have f3 := hG2.frozen 3
  have f4 := hG2.frozen 4
  simp at c0 c1 c2 c3 c4
  have hG3 := ((((hG2.set 0 (.int .i64 A)).set 1 (.int .i64 B)).set 2 (.int .i64 hc)).set 3 (.int .i64 hd)).set 4 (.int .i64 he)
  have hB3 : Below w.heap.size w (((((W2.setCell ⟨w.heap.size, 0, none⟩ (.int .i64 A)).setCell ⟨w.heap.size, 1, none⟩ (.int .i64 B)).setCell ⟨w.heap.size, 2, none⟩ (.int .i64 hc)).setCell ⟨w.heap.size, 3, none⟩ (.int .i64 hd)).setCell ⟨w.heap.size, 4, none⟩ (.int .i64 he)) := ((((hB2.setCell (Nat.le_refl _) _).setCell (Nat.le_refl _) _).setCell (Nat.le_refl _) _).setCell (Nat.le_refl _) _).setCell (Nat.le_refl _) _
  go_wp2_with fail
  generalize hW3 : ((((W2.setCell ⟨w.heap.size, 0, none⟩ (.int .i64 A)).setCell ⟨w.heap.size, 1, none⟩ (.int .i64 B)).setCell ⟨w.heap.size, 2, none⟩ (.int .i64 hc)).setCell ⟨w.heap.size, 3, none⟩ (.int .i64 hd)).setCell ⟨w.heap.size, 4, none⟩ (.int .i64 he) = W3 at *
  clear hW3 c0 c1 c2 c3 c4 f0 f1 f2 f3 f4 hG2 hB2
  refine (New_any _).mono ?_
  rintro e w4 ⟨rfl, hw4⟩
  have HW4 := hide hw4
  clear hw4
  go_wp2_with fail
  refine (RNew_any _).mono ?_
  rintro e w5 ⟨rfl, hw5⟩
  have hs4 : w4.heap.size = W3.heap.size + 1 := by rw [HW4.out]; simp
  have hw5' : w5 = (W3.alloc (.cells (pcells PSt.zero none) 67)).alloc (.cells (rcells PSt.zero (.slice none 0 0)) 45) := by rw [hw5, HW4.out]
  have HW5 := hide hw5'
  rw [hs4]
  have hb5 : Below W3.heap.size W3 w5 := by rw [hw5']; exact ((Below.refl _ _).alloc (Nat.le_refl _) _).alloc (by simp) _
  have hs3lt : w.heap.size < W3.heap.size := hG3.lt
  clear hw5 hw5' HW4 hs4
  have hG5 := hG3.below hb5 hs3lt
  have c0 := hG5.cell 0
  have c1 := hG5.cell 1
  have c2 := hG5.cell 2
  have c3 := hG5.cell 3
  have c4 := hG5.cell 4
  simp at c0 c1 c2 c3 c4
  have hnn := fun po => NewNor_right w5 A B hc hd he po hr
  unfold gcells at hnn
  go_wp2_with fail
  refine (hnn _).mono ?_
  rintro e w6 ⟨k, bb, eb, rfl, hm6⟩
  have hb6 := hb5.trans (hm6.below.mono hb5.size)
  have hG6 := hG3.below hb6 hs3lt
  clear c0 c1 c2 c3 c4 hG5 hnn
  have c0 := hG6.cell 0
  have c1 := hG6.cell 1
  have c2 := hG6.cell 2
  have c3 := hG6.cell 3
  have c4 := hG6.cell 4
  simp at c0 c1 c2 c3 c4
  have hnr := fun po => RNewNor_right w6 A B hc hd he po hr
  unfold gcells at hnr
  go_wp2_with fail
  refine (hnr _).mono ?_
  rintro e w7 ⟨k', bb', eb', rfl, hm7⟩
  have hT := two_made (w0 := W3) (Below.refl _ _) HW5.out hm6 hm7
  have ok := NSt.new_ok hr 0
  have hrg := RightG.new hr
  clear c0 c1 c2 c3 c4 hG6 hnr hm6 hm7 HW5 hb5 hb6 hr
  generalize hL : (⟨k, W3.heap.size, bb, eb⟩ : Lay) = L at *
  generalize hM : (⟨k', W3.heap.size + 1, bb', eb'⟩ : Lay) = M at *
  obtain rfl : k = L.c := by rw [← hL]
  obtain rfl : k' = M.c := by rw [← hM]
  have hLp : W3.heap.size = L.pb := by rw [← hL]
  have hMp : W3.heap.size + 1 = M.pb := by rw [← hM]
  clear hL hM
  rw [hMp, hLp]
  have HLP := hide hLp
  clear hLp hMp
  generalize hbase : w7.heap.size = base at *
  generalize NSt.new A B hc hd he = N at *
  have HRG := hide hrg
  have HOKN := hide ok
  clear hrg ok
  go_wp2_with fail
  refine (awake_any _).mono ?_
  rintro e w8 ⟨rfl, hb8⟩
  have hT8 := Two.below' hT hb8
  have hszW : W3.heap.size ≤ base := by have := hT.loL.1; have := hT.dev.2.lt.1; omega
  clear hT hb8 hG3
  go_wp2_with fail
  go_loopw [11] (fun i wr => ∃ k : Nat, k ≤ len ∧ k ≤ 40 ∧ i = .int .i64 k ∧ ∃ (S : PSt) (N' : NSt), S.Ok (408 * k) ∧ N'.Ok (408 * k) ∧ SameG N N' ∧ Two W3 base wr L M S N' S N') (fun i _ => len - (intOf i).toNat)
  case atStart => exact ⟨0, Nat.zero_le _, Nat.zero_le _, rfl, PSt.zero, N, PSt.zero_ok _, HOKN.out, SameG.refl _, hT8⟩
  case round =>
    obtain ⟨k, hk, hk2, rfl, S, N', hS, hN, hNG, hTk⟩ := hrel
    have hBk := hB3.trans (hTk.below.mono (by omega))
    clear hT8
    by_cases hlt : k < len ∧ k < 40
    · obtain ⟨hlt1, hlt2⟩ := hlt
      obtain ⟨bl, off, cap', hv, hbl, hcs⟩ := HS.out.at (by rw [HL0.out]; omega) (by intro x; simp [OpH.cells])
      obtain ⟨rfl, rfl⟩ : ao = some ⟨bl, off, none⟩ ∧ cap = cap' := by rw [HL0.out] at hv; simpa using hv
      obtain ⟨o, ho⟩ : ∃ o, ops[k]? = some o := ⟨_, List.getElem?_eq_getElem (by rw [HL0.out]; omega)⟩
      have hook := HOK.out o (List.mem_of_getElem? ho)
      have hc' : ∀ j u, o.cells[j]? = some u → wr.cell? ⟨bl, off + k * 6 + j, none⟩ = some u := fun j u hu => (hBk.cell (p := ⟨bl, off + k * 6 + j, none⟩) (by simp; omega)).trans (hcs k o ho j u hu)
      have d0 := hc' 0 _ rfl
      have d1 := hc' 1 _ rfl
      have d2 := hc' 2 _ rfl
      have d3 := hc' 3 _ rfl
      have d4 := hc' 4 _ rfl
      have d5 := hc' 5 _ rfl
      obtain ⟨kind, hf, q, n, mask, bvv, b⟩ := o
      obtain ⟨q0, q1, q2, q3, q4, q5⟩ := hook
      simp at d0 d1 d2 d3 d4 d5 q0 q1 q2 q3 q4 q5
      have hlt3 : (k : Int) < 40 := by omega
      clear hcs hc' ho hv
      have rb := q5.bytes
      obtain ⟨lo, lcap, rfl⟩ := rb.of_len
      have HRB := hide rb
      have hlm2 := rb.len
      unfold maxLen at hlm2
      clear q5 rb
      generalize hll : b.length = ln at *
      have HLL := hide hll
      clear hll
      generalize hob : wr.heap.size = ob at *
      have hobb : base ≤ ob := hob ▸ hTk.size
      have hT1 := hTk.alloc (.cells #[.int .i64 kind, .int .i64 hf, .int .i64 q, .int .i64 n, .int .u8 mask, .slice lo ln lcap] 40)
      have hO1 : Blk (wr.alloc (.cells #[.int .i64 kind, .int .i64 hf, .int .i64 q, .int .i64 n, .int .u8 mask, .slice lo ln lcap] 40)) ob #[.int .i64 kind, .int .i64 hf, .int .i64 q, .int .i64 n, .int .u8 mask, .slice lo ln lcap] 40 := hob ▸ Blk.new wr _ _
      have e0 := hTk.ref.1.cells.1
      have hlM := hTk.ref.2.lt
      clear hTk hBk
      go_upto_block 2 with fail
      go_cut [13, 14, 15] (fun s13 s14 s15 wx => s13 = .bool true ∧ ∃ (S2 : PSt) (N2 : NSt), Two W3 base wx L M S2 N2 S2 N2 ∧ S2.Ok (408 * (k + 1)) ∧ N2.Ok (408 * (k + 1)) ∧ SameG N N2)
      case first =>
        refine (Classical.em (kind = 1)).elim (fun hk1 => ?k1) (fun hk1 => (Classical.em (kind = 2)).elim (fun hk2 => ?k2) (fun hk2 => (Classical.em (kind = 3)).elim (fun hk3 => ?k3) (fun hk3 => ?k4)))
        case k1 => as_aux_lemma =>
          subst hk1
          go_wp2_with fail
          generalize wr.alloc (.cells #[.int .i64 1, .int .i64 hf, .int .i64 q, .int .i64 n, .int .u8 mask, .slice lo ln lcap] 40) = W at *
          have b1 : W.cell? ⟨ob, 1, none⟩ = some (.int .i64 hf) := (hO1.cell 1).trans rfl
          have hT1d := hT1.still (only_drew W)
          go_region_held3 (fun w' => w'.cell? ⟨ob, 1, none⟩ = some (.int .i64 hf))
            (first
              | assumption
              | exact cell_only8 hO50 (hT1d.farL hobb) (by assumption)
              | exact cell_only8 hO51 (hT1d.farR hobb) (by assumption)
              | fail)
            (first
              | (go_at_call 13; refine (HWipe_any base _ L S N' (408 * k) (by exact hT1d.dev) hS hN (by omega) hf).mono ?_; rintro e w50 ⟨rfl, hD50, hO50⟩)
              | (go_at_call 14; refine (RHWipe_any base _ M S N' (408 * k) (by exact (hT1d.turnL hD50 hO50).ref) hS hN (by omega) hf).mono ?_; rintro e WZ ⟨rfl, hD51, hO51⟩)
              | fail)
          have hT2 := (hT1d.turnL hD50 hO50).turnR hD51 hO51
          have hNS := wipeH_ok hf hS hN
          have hGG := hNG.trans (wipeH_geo S N' hf)
          generalize wipeH S N' hf = E at *
          obtain ⟨eE, S2, N2⟩ := E
          simp only at hT2 hNS hGG
          have hS2 : S2.Ok (408 * (k + 1)) := hNS.1.more (by omega)
          have hN2 : N2.Ok (408 * (k + 1)) := hNS.2.more (by omega)
          clear hNS hT1 hT1d hO1 hD50 hO50 hD51 hO51 b1 d0 d1 d2 d3 d4 d5 e0
          go_wp2
          go_meet
          exact ⟨rfl, S2, N2, hT2, hS2, hN2, hGG⟩
        case' k2 =>
          subst hk2
          have eW := hT1.ref.1.cells.1
          refine (Classical.em (S.off = true)).elim (fun hoff => ?k2a) (fun hoff => ?k2b)
        case k2a =>
          rw [hoff] at e0 eW
          go_wp2_with fail
          generalize wr.alloc (.cells #[.int .i64 2, .int .i64 hf, .int .i64 q, .int .i64 n, .int .u8 mask, .slice lo ln lcap] 40) = WZ at *
          have hS2 : S.Ok (408 * (k + 1)) := hS.more (by omega)
          have hN2 : N'.Ok (408 * (k + 1)) := hN.more (by omega)
          clear hO1 d0 d1 d2 d3 d4 d5 e0 eW hoff
          go_wp2
          go_meet
          exact ⟨rfl, S, N', hT1, hS2, hN2, hNG⟩
        case k2b =>
          have hoff' : S.off = false := by simpa using hoff
          rw [hoff'] at e0 eW
          go_wp2_with fail
          generalize wr.alloc (.cells #[.int .i64 2, .int .i64 hf, .int .i64 q, .int .i64 n, .int .u8 mask, .slice lo ln lcap] 40) = W at *
          refine (CutN_any base W L.pb S n mask hT1.dev.1).mono ?_
          rintro e wc ⟨rfl, hPc, hgc⟩
          have hTc := hT1.powL hPc hgc
          have hOc := hO1.only (only_grown (l := [L.pb, L.bb, L.eb]) hgc (fun k e => by cases e; simp)) (hT1.farL hobb)
          have g2 : wc.cell? ⟨ob, 3, none⟩ = some (.int .i64 n) := (hOc.cell 3).trans rfl
          have g3 : wc.cell? ⟨ob, 4, none⟩ = some (.int .u8 mask) := (hOc.cell 4).trans rfl
          clear hPc hgc d0 d1 d2 d3 d4 d5 e0 eW
          go_wp2_with fail
          refine (RCutN_any base wc M.pb S n mask hTc.ref.1).mono ?_
          rintro e WZ ⟨rfl, hPx, hgx⟩
          have hT2 := hTc.powR hPx hgx
          have hS2 : (S.cut n mask).Ok (408 * (k + 1)) := (hS.cut q3 q4).more (by omega)
          generalize S.cut n mask = S2 at *
          have hN2 : N'.Ok (408 * (k + 1)) := hN.more (by omega)
          clear hT1 hO1 hTc hOc g2 g3 hPx hgx hoff hoff'
          go_wp2
          go_meet
          exact ⟨rfl, S2, N', hT2, hS2, hN2, hNG⟩
        case k3 => as_aux_lemma =>
          subst hk3
          go_wp2_with fail
          generalize wr.alloc (.cells #[.int .i64 3, .int .i64 hf, .int .i64 q, .int .i64 n, .int .u8 mask, .slice lo ln lcap] 40) = W at *
          refine (OnN_any base W L.pb S hT1.dev.1).mono ?_
          rintro e wc ⟨rfl, hPc, hgc⟩
          have hTc := hT1.powL hPc hgc
          clear hPc hgc d0 d1 d2 d3 d4 d5 e0
          go_wp2_with fail
          refine (ROnN_any base wc M.pb S hTc.ref.1).mono ?_
          rintro e WZ ⟨rfl, hPx, hgx⟩
          have hT2 := hTc.powR hPx hgx
          have hS2 : S.on.Ok (408 * (k + 1)) := hS.on.more (by omega)
          generalize S.on = S2 at *
          have hN2 : N'.Ok (408 * (k + 1)) := hN.more (by omega)
          clear hT1 hO1 hTc hPx hgx
          go_wp2
          go_meet
          exact ⟨rfl, S2, N', hT2, hS2, hN2, hNG⟩
        case k4 =>
          have hBT := hB3.trans (hT1.below.mono (by omega))
          by_cases hbig : (400 : Int) < ln
          case pos =>
            go_wp2
            go_ret
            exact ⟨rfl, hBT⟩
          have hln : ln ≤ 400 := by omega
          have hbig' : ¬ ((400 : Int) < ln) := hbig
          have hRN : RightG N' := hNG.right HRG.out
          have hlenN : N'.bs.length ≤ 65536 := by rw [hN.len]; exact hN.big.2
          have hrl := readH_len N' hf
          have hrc := readH_code N' hf
          have b0 : (wr.alloc (.cells #[.int .i64 kind, .int .i64 hf, .int .i64 q, .int .i64 n, .int .u8 mask, .slice lo ln lcap] 40)).cell? ⟨ob, 0, none⟩ = some (.int .i64 kind) := (hO1.cell 0).trans rfl
          have b1 : (wr.alloc (.cells #[.int .i64 kind, .int .i64 hf, .int .i64 q, .int .i64 n, .int .u8 mask, .slice lo ln lcap] 40)).cell? ⟨ob, 1, none⟩ = some (.int .i64 hf) := (hO1.cell 1).trans rfl
          have b2 : (wr.alloc (.cells #[.int .i64 kind, .int .i64 hf, .int .i64 q, .int .i64 n, .int .u8 mask, .slice lo ln lcap] 40)).cell? ⟨ob, 2, none⟩ = some (.int .i64 q) := (hO1.cell 2).trans rfl
          have b5 : (wr.alloc (.cells #[.int .i64 kind, .int .i64 hf, .int .i64 q, .int .i64 n, .int .u8 mask, .slice lo ln lcap] 40)).cell? ⟨ob, 5, none⟩ = some (.slice lo ln lcap) := (hO1.cell 5).trans rfl
          generalize hR : readH N' hf = R at *
          refine (Classical.em (kind = 4)).elim (fun h4 => ?a4) (fun h4 => ?b4)
          case' b4 =>
            have h4b : (kind == 4) = false := by simpa using h4
            clear h4 hbig hR
            go_upto_region 18 with fail
            generalize wr.alloc (.cells #[.int .i64 kind, .int .i64 hf, .int .i64 q, .int .i64 n, .int .u8 mask, .slice lo ln lcap] 40) = Wd at *
            obtain ⟨r, hr2⟩ : ∃ r, q = r := ⟨_, rfl⟩
            rw [hr2] at b2 q2
            have hTd := hT1
            have hold : Hold3 ob (.int .i64 hf) (.int .i64 r) (.slice lo ln lcap) Wd := ⟨b1, b2, b5⟩
            clear hr2 b0 b1 b2 b5 hO1 hT1 d0 d1 d2 d3 d4 d5 e0 hBT h4b
          case' a4 =>
            subst h4
            clear hbig
            generalize wr.alloc (.cells #[.int .i64 4, .int .i64 hf, .int .i64 q, .int .i64 n, .int .u8 mask, .slice lo ln lcap] 40) = Wc at *
            have hrh := RReadHalf_any base Wc M N' (408 * k) hT1.ref.2 hN hRN hf
            rw [hR] at hrh
            go_wp2_with fail
            refine hrh.mono ?_
            rintro e Wb ⟨v14, rfl, hown, hbb⟩
            have hTb := hT1.below' hbb
            have hOb := hO1.below hbb hO1.lt
            obtain ⟨xo, xcap, rfl⟩ := hown.row.of_len
            have hsc := RScan_any Wb (.slice xo R.2.length xcap) R.2 hown.row (by omega)
            clear hrh hbb b0 b1 b2 b5 hO1 hT1 hown
            go_wp2_with fail
            refine hsc.mono ?_
            rintro e We ⟨l, us, bss, m, rfl, hv, ho, hse, hbe⟩
            have hTe := hTb.below' hbe
            have hOe := hOb.below hbe hOb.lt
            have hml := hse.1.le
            have f2 := hOe.frozen 2
            have g2 := hOe.cell 2
            simp at g2
            have hOs := hOe.set 2 (.int .i64 (m : Int))
            have hTs := hTe.other (only_setCell We ob 2 (.int .i64 (m : Int)) [ob] (by simp)) hobb
            clear hsc hv ho hse hbe hTb hOb
            obtain ⟨cl, hcl⟩ : ∃ z, clean (R.2.drop m) = z := ⟨_, rfl⟩
            rw [hcl]
            clear hcl
            go_upto_region 18 with fail
            generalize We.setCell ⟨ob, 2, none⟩ (.int .i64 (m : Int)) = Wd at *
            obtain ⟨r, hr2⟩ : ∃ r, (m : Int) = r := ⟨_, rfl⟩
            have q2 : (Lit.int .i64 r).wf = true := by rw [← hr2]; exact wf_i64 (by omega) (by omega)
            rw [hr2] at hOs
            have hTd := hTs
            have hold : Hold3 ob (.int .i64 hf) (.int .i64 r) (.slice lo ln lcap) Wd := ⟨(hOs.cell 1).trans rfl, (hOs.cell 2).trans rfl, (hOs.cell 5).trans rfl⟩
            clear hr2 hOe hTe f2 g2 hOs hTs d0 d1 d2 d3 d4 d5 e0 hBT hml
          all_goals
            have hT1d := hTd.still (only_drew Wd)
            have hold' : Hold3 ob (.int .i64 hf) (.int .i64 r) (.slice lo ln lcap) Wd.drew := hold
            have b1 := hold.1
            have b2 := hold.2.1
            have b5 := hold.2.2
            clear hrl hrc hlenN hold
            go_wp2_with fail
            go_region_held3 (fun w' => w'.cell? ⟨ob, 1, none⟩ = some (.int .i64 hf) ∧ w'.cell? ⟨ob, 2, none⟩ = some (.int .i64 r) ∧ w'.cell? ⟨ob, 5, none⟩ = some (.slice lo ln lcap))
              (first
                | assumption
                | exact hold'
                | exact hold3_only (only_two hO50) (hT1d.farL hobb) (by assumption)
                | exact hold3_only (only_two hO51) (hT1d.farR hobb) (by assumption)
                | fail)
              (first
                | (go_at_call 21; refine (HAppend_any base _ L S N' (408 * k) (by exact hT1d.dev) hS hN hRN (by omega) (by exact hT1d.size) hf r q2 (.slice lo ln lcap) b (by exact HRB.out.below (hB3.trans (hT1d.below.mono (by omega))))).mono ?_; rintro e w50 ⟨rfl, hD50, hO50⟩)
                | (go_at_call 22; refine (RAppendHalf_any base _ M S N' (408 * k) (by exact (hT1d.turnL hD50 (only_two hO50)).ref) hS hN hRN (by omega) (by exact (hT1d.turnL hD50 (only_two hO50)).size) hf r q2 (.slice lo ln lcap) b (by exact HRB.out.below (hB3.trans ((hT1d.turnL hD50 (only_two hO50)).below.mono (by omega))))).mono ?_; rintro e WZ ⟨rfl, hD51, hO51⟩)
                | fail)
            have hT2 := (hT1d.turnL hD50 (only_two hO50)).turnR hD51 (only_two hO51)
            have hNS := appH_ok (h := hf) (q := r) hS hN HRB.out.bys
            generalize appH S N' hf r b = E at *
            obtain ⟨eE, S2, bs2⟩ := E
            simp only at hT2 hNS
            have hS2 : S2.Ok (408 * (k + 1)) := hNS.1.more (by rw [HLL.out]; omega)
            have hN2 : ({ N' with bs := bs2 } : NSt).Ok (408 * (k + 1)) := hNS.2.more (by rw [HLL.out]; omega)
            have hGG : SameG N { N' with bs := bs2 } := hNG.trans ⟨rfl, rfl, rfl, rfl, rfl⟩
            generalize ({ N' with bs := bs2 } : NSt) = N2 at *
            clear hNS hT1d hTd hD50 hO50 hD51 hO51 hold' b1 b2 b5
            go_wp2
            go_meet
            exact ⟨rfl, S2, N2, hT2, hS2, hN2, hGG⟩
      case rest => as_aux_lemma =>
        clear hT1 hO1 d0 d1 d2 d3 d4 d5 e0
        obtain ⟨rfl, S2, N2, hT2, hS2, hN2, hGG⟩ := hcut
        have hRN := hGG.right HRG.out
        try go_wp2_with fail
        go_loopw [16, 17, 18, 19, 20] (fun i _ _ _ _ wx => ∃ j : Nat, j ≤ 4 ∧ i = .int .i64 ((j : Int) - 1) ∧ Two W3 base wx L M S2 N2 S2 N2) (fun i _ _ _ _ _ => (3 - intOf i).toNat)
        case atStart => exact ⟨0, Nat.zero_le _, rfl, hT2⟩
        case round =>
          clear hT2
          obtain ⟨j, hj, rfl, hTj⟩ := hrel
          obtain ⟨z, hz⟩ : ∃ z : Int, (j : Int) - 1 = z := ⟨_, rfl⟩
          rw [hz]
          have HZ := hide hz
          by_cases hj3 : j < 4
          · have hz3 : z < 3 := by omega
            have hz0 : -1 ≤ z := by omega
            have hrd1 := HRead_any base wr L N2 (408 * (k + 1)) hTj.dev.2 hN2 hRN z
            have hrd2 := fun w' (hc : Chip 74 base w' M N2) => RReadHalf_any base w' M N2 (408 * (k + 1)) hc hN2 hRN z
            generalize readH N2 z = R at *
            obtain ⟨re, rl⟩ := R
            simp only at hrd1 hrd2
            have HJ := hide hj
            clear hz hj
            go_wp2_with fail
            refine hrd1.mono ?_
            rintro e w10 ⟨v10, rfl, hown10, hb10⟩
            have hT10 := hTj.below' hb10
            have hrd3 := hrd2 w10 hT10.ref.2
            have hr10 := hown10.row
            obtain ⟨xo, xcap, rfl⟩ := hr10.of_len
            clear hrd1 hrd2 hb10 hTj hown10
            go_wp2_with fail
            refine hrd3.mono ?_
            rintro e w11 ⟨v11, rfl, hown11, hb11⟩
            have hT11 := hT10.below' hb11
            have hr11 := hown11.row
            obtain ⟨yo, ycap, rfl⟩ := hr11.of_len
            have hby := Bytes_any w11 (.slice xo rl.length xcap) (.slice yo rl.length ycap) rl rl (hr10.below hb11) hr11
            rw [decide_eq_true rfl] at hby
            clear hrd3 hb11 hT10 hown11 hr10 hr11
            go_wp2_with fail
            refine hby.mono ?_
            rintro e wz ⟨rfl, rfl⟩
            go_wp2
            exact ⟨⟨j + 1, by omega, by have := HZ.out; congr 1; omega, hT11⟩, by have := HZ.out; simp [intOf]; omega⟩
          · have hz3 : ¬ (z < 3) := by omega
            clear hz
            go_wp2
            exact ⟨⟨k + 1, by omega, by omega, by go_num, S2, N2, hS2, hN2, hGG, hTj⟩, by simp [intOf]; omega⟩
    · by_cases hl2 : (k : Int) < len
      · have hk3 : ¬ ((k : Int) < 40) := by omega
        go_wp2
        go_ret
        exact ⟨rfl, hBk⟩
      · go_wp2
        go_ret
        exact ⟨rfl, hBk⟩
end Go.Proofs.Ytgkgbbffgcmekaa
