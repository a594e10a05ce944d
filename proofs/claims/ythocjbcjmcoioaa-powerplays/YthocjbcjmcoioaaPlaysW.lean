/-
  The walk of garretlaw03.PowerPlays.
-/
import Derived.Test.YthocjbcjmcoioaaRefPow
import Derived.Test.YthocjbcjmcoioaaAwake03
import Derived.Test.YthocjbcjmcoioaaOpen
import Derived.Test.YthocjbcjmcoioaaInts
import Derived.Deep.RegionHeld3
import Derived.OpenShut
namespace Go.Proofs.Ythocjbcjmcoioaa
open Go.RowKit
set_option linter.unusedVariables false

/-- One thing that is done. -/
structure OpD where
  kind : Int
  n : Int
  mask : Int
  lv : Value
  l : List Int
instance : Inhabited OpD := ⟨⟨0, 0, 0, .slice none 0 0, []⟩⟩
def OpD.cells (o : OpD) : List Value := [.int .i64 o.kind, .int .i64 o.n, .int .u8 o.mask, o.lv]
structure OpD.Ok (w : World) (o : OpD) : Prop where
  kind : (Lit.int .i64 o.kind).wf = true
  n : (Lit.int .i64 o.n).wf = true
  mask : (Lit.int .u8 o.mask).wf = true
  l : IRow .i64 w o.lv o.l

theorem opens_op (w : World) : Opens Try.prog w 30 (fun cs => ∃ o : OpD, cs = o.cells ∧ o.Ok w) := by
  have hI : ∀ w : World, Opens Try.prog w 3 _ := fun w => opens_int Try.underlying3
  have hB : ∀ w : World, Opens Try.prog w 5 _ := fun w => opens_int Try.underlying5
  have hL : ∀ w : World, Opens Try.prog w 28 _ := fun w => opens_ints Try.underlying28 Try.underlying3 (by kernel_rfl)
  intro H enc fuel cs x h
  obtain ⟨xs, n, _, rfl, hl, hlen, hf⟩ := DataW.trod_struct Try.underlying30 h
  have c4 : Try.prog.cellsOf 30 = 4 := by kernel_rfl
  have ci : Try.prog.cellsOf 3 = 1 := by kernel_rfl
  have cb : Try.prog.cellsOf 5 = 1 := by kernel_rfl
  have cl : Try.prog.cellsOf 28 = 1 := by kernel_rfl
  rw [c4] at hl
  match xs, hlen, cs, hl with
  | [y0, y1, y2, y3], _, [v0, v1, v2, v3], _ =>
    have g0 := hf 0 _ rfl
    have g1 := hf 1 _ rfl
    have g2 := hf 2 _ rfl
    have g3 := hf 3 _ rfl
    simp [ci, cb, cl] at g0 g1 g2 g3
    obtain ⟨a0, h0, p0⟩ := hI w _ _ _ _ _ g0
    obtain ⟨a1, h1, p1⟩ := hI w _ _ _ _ _ g1
    obtain ⟨a2, h2, p2⟩ := hB w _ _ _ _ _ g2
    obtain ⟨a3, l, h3, p3⟩ := hL w _ _ _ _ _ g3
    simp at h0 h1 h2 h3
    subst h0 h1 h2 h3
    exact ⟨⟨a0, a1, a2, _, l⟩, rfl, p0, p1, p2, p3⟩

theorem infoInt : (Try.prog.info? 3).map (fun i => (i.zero, i.size, i.bytes)) = some (some (.int .i64 0), 1, 8) := by kernel_rfl

theorem PSt.Ok.more {S : PSt} {k : Nat} (h : S.Ok k) : S.Ok (k + 1) := ⟨h.1, by have := h.2; omega, h.3, h.4, h.5⟩
theorem PSt.Ok.cut {S : PSt} {k : Nat} (h : S.Ok k) {n mask : Int} (hn : (Lit.int .i64 n).wf = true) (hm : (Lit.int .u8 mask).wf = true) : (S.cut n mask).Ok (k + 1) :=
  ⟨h.1, by have := h.2; simp [PSt.cut]; omega, by simp [PSt.cut], hn, wf_u8 hm⟩
theorem PSt.Ok.on {S : PSt} {k : Nat} (h : S.Ok k) : S.on.Ok (k + 1) := ⟨h.1, by have := h.2; simp [PSt.on]; omega, by simp [PSt.on], h.4, h.5⟩
theorem PSt.Ok.fail {S : PSt} {k : Nat} (h : S.Ok k) (l : List Int) : PSt.Ok { S with fails := l } (k + 1) := ⟨h.1, by have := h.2; simp; omega, h.3, h.4, h.5⟩
theorem PSt.Ok.step {S : PSt} {k : Nat} (h : S.Ok k) : S.step.2.2.Ok (k + 1) := by
  obtain ⟨off, armed, left, mask, steps, fails⟩ := S
  obtain ⟨h1, h2, h3, h4, h5⟩ := h
  have h4' := of_wf_i64 h4
  simp at h1 h2 h3 h4' h5
  unfold PSt.step
  split
  · exact ⟨h1, by simp; omega, h3, h4, h5⟩
  · split
    · exact ⟨h1, by simp; omega, h3, h4, h5⟩
    · rename_i hz
      refine ⟨by simp; omega, by simp; omega, fun ha => ?_, ?_, h5⟩
      · simp at ha hz
        have := h3 ha
        have := hz ha
        simp [ha]; omega
      · cases armed with
        | false => exact h4
        | true =>
          have := h3 rfl
          exact wf_i64 (by simp; omega) (by simp; omega)

/-- Both powers are S, and nothing older has turned. -/
def Both (b : Nat) (w : World) (S : PSt) (w' : World) : Prop := Pow (b + 2) w' b S ∧ RPow (b + 2) w' (b + 1) S ∧ Below b w w' ∧ b + 2 ≤ w'.heap.size

theorem Both.grown {b : Nat} {w W W' : World} {S : PSt} (h : Both b w S W) (hg : W.grownBy W' none) : Both b w S W' :=
  ⟨h.1.kept hg (by simp), h.2.1.kept hg (by simp), h.2.2.1.grown hg (by have := h.2.2.2; have := h.2.2.1.size; omega) (by simp), Nat.le_trans h.2.2.2 hg.size⟩
theorem RPow.cells {base c : Nat} {w : World} {S : PSt} (h : RPow base w c S) : w.cell? ⟨c, 0, none⟩ = some (.bool S.off) ∧ w.cell? ⟨c, 2, none⟩ = some (.int .u8 S.mask) ∧ w.cell? ⟨c, 3, none⟩ = some (.int .i64 S.steps) := by
  obtain ⟨v, h, _⟩ := h
  exact ⟨(h.cell 0).trans rfl, (h.cell 2).trans rfl, (h.cell 3).trans rfl⟩
abbrev Held (b : Nat) (w : World) (S : PSt) (w' : World) : Prop :=
  (w'.cell? ⟨b + 1, 0, none⟩ = some (.bool S.off) ∧ w'.cell? ⟨b + 1, 2, none⟩ = some (.int .u8 S.mask) ∧ w'.cell? ⟨b + 1, 3, none⟩ = some (.int .i64 S.steps)) ∧ Both b w S w'
theorem held_of {b : Nat} {w W : World} {S : PSt} (h : Both b w S W) : Held b w S W := ⟨h.2.1.cells, h⟩
theorem held_grown {b : Nat} {w W W' : World} {S : PSt} (hg : W.grownBy W' none) (h : Held b w S W) : Held b w S W' := held_of (h.2.grown hg)
theorem held_out {b : Nat} {w W : World} {S : PSt} (h : Held b w S W) : Pow (b + 2) W b S ∧ RPow (b + 2) W (b + 1) S ∧ Below b w W ∧ b + 2 ≤ W.heap.size := h.2
/-- The block of the thing that is done. -/
theorem both_alloc {b bo : Nat} {w wr : World} {S : PSt} (h : Both b w S wr) (hob : wr.heap.size = bo) (cs : Array Value) (t : TypeId) : Both b w S (wr.alloc (.cells cs t)) ∧ Blk (wr.alloc (.cells cs t)) bo cs t :=
  ⟨h.grown (World.grownBy_alloc _ _ none), hob ▸ Blk.new _ _ _⟩

set_option maxRecDepth 100000 in
set_option maxHeartbeats 4000000 in
theorem PowerPlays_walk (v : Value) (ops : List OpD) (w : World) (hs : Seq w 4 OpD.cells v ops) (hok : ∀ o ∈ ops, o.Ok w) :
    Calls Try.prog 3 #[v] w fun e w' => e = .returned (.bool true) ∧ Below w.heap.size w w' := by
  have hlm := hs.len
  unfold maxLen at hlm
  obtain ⟨ao, cap, hv⟩ := hs.of_len
  subst hv
  generalize hL : ops.length = len at *
  go_enter Try.func3, Try.ntmps3
  go_wp2_with fail
  refine (New_any _).mono ?_
  rintro e w1 ⟨rfl, hw1⟩
  have hs1 : w1.heap.size = w.heap.size + 1 := by rw [hw1]; simp
  have hP := Pow.new w (w.heap.size + 2) (by omega)
  rw [← hw1] at hP
  have hb1 : Below w.heap.size w w1 := hw1 ▸ (Below.refl _ _).alloc (Nat.le_refl _) _
  clear hw1
  go_wp2_with fail
  refine (RNew_any _).mono ?_
  rintro e w2 ⟨rfl, hw2⟩
  have hs2 : w2.heap.size = w.heap.size + 2 := by rw [hw2]; simp [hs1]
  have hR := RPow.new w1 (w.heap.size + 2) (by omega)
  have hP2 := hP.kept (World.grownBy_alloc w1 (.cells (rcells PSt.zero (.slice none 0 0)) 32) none) (by simp)
  rw [← hw2] at hR hP2
  have hb2 : Below w.heap.size w w2 := hw2 ▸ hb1.alloc (by omega) _
  rw [hs1] at *
  clear hw2 hb1 hP
  generalize hbn : w.heap.size = b at *
  go_wp2_with fail
  refine (awake_any _).mono ?_
  rintro e w3 ⟨rfl, hb3⟩
  have hP3 := hP2.kept (below_grown hb3 none) (by simp)
  have hR3 := hR.kept (below_grown hb3 none) (by simp)
  have hB3 : Below b w w3 := hb2.trans (hb3.mono (by omega))
  have hs3 : b + 2 ≤ w3.heap.size := by have := hb3.size; omega
  clear hP2 hR hb3 hb2
  go_wp2
  go_loopw [5] (fun i wr => ∃ k : Nat, k ≤ len ∧ k ≤ 200 ∧ i = .int .i64 k ∧ ∃ S : PSt, S.Ok k ∧ Pow (b + 2) wr b S ∧ RPow (b + 2) wr (b + 1) S ∧ Below b w wr ∧ b + 2 ≤ wr.heap.size) (fun i _ => len - (intOf i).toNat)
  case atStart => exact ⟨0, Nat.zero_le _, by omega, rfl, PSt.zero, PSt.zero_ok 0, hP3, hR3, hB3, hs3⟩
  case round =>
    obtain ⟨k, hk, hk2, rfl, S, hS, hPk, hRk, hBk, hsk⟩ := hrel
    clear hP3 hR3 hB3 hs3
    by_cases hlt : k < len ∧ k < 200
    · obtain ⟨hlt1, hlt2⟩ := hlt
      obtain ⟨bl, off, cap', hv, hbl, hc⟩ := hs.at (by omega) (by intro x; simp [OpD.cells])
      obtain ⟨rfl, rfl⟩ : ao = some ⟨bl, off, none⟩ ∧ cap = cap' := by rw [hL] at hv; simpa using hv
      obtain ⟨o, ho⟩ : ∃ o, ops[k]? = some o := ⟨_, List.getElem?_eq_getElem (by omega)⟩
      have hook := hok o (List.mem_of_getElem? ho)
      have hc' : ∀ j u, o.cells[j]? = some u → wr.cell? ⟨bl, off + k * 4 + j, none⟩ = some u := fun j u hu => (hBk.cell (p := ⟨bl, off + k * 4 + j, none⟩) (by simp; omega)).trans (hc k o ho j u hu)
      have d0 := hc' 0 _ rfl
      have d1 := hc' 1 _ rfl
      have d2 := hc' 2 _ rfl
      have d3 := hc' 3 _ rfl
      obtain ⟨kind, n, mask, lv, l⟩ := o
      obtain ⟨q0, q1, q2, q3⟩ := hook
      simp at d0 d1 d2 d3 q0 q1 q2 q3
      have hlt3 : (k : Int) < 200 := by omega
      clear hc hc' hok ho hv hs hs1
      obtain ⟨lo, lcap, rfl⟩ := q3.of_len
      have q3' := q3
      have hlm2 := q3.len
      unfold maxLen at hlm2
      generalize hll : l.length = ln at *
      have hbo : b + 1 < wr.heap.size := by omega
      have e0 : wr.cell? ⟨b + 1, 0, none⟩ = some (.bool S.off) := by
        obtain ⟨v, h, _⟩ := hRk
        rw [h.cell 0]; rfl
      generalize hob : wr.heap.size = bo at *
      have hX : Both b w S wr := ⟨hPk, hRk, hBk, by omega⟩
      have hbs : b + 2 ≤ bo := by omega
      clear hPk hRk hBk hsk
      have hA := both_alloc hX hob #[.int .i64 kind, .int .i64 n, .int .u8 mask, .slice lo ln lcap] 30
      refine (Classical.em (kind = 1)).elim (fun hk1 => ?k1) (fun hk1 => (Classical.em (kind = 2)).elim (fun hk2 => ?k2) (fun hk2 => (Classical.em (kind = 3)).elim (fun hk3 => ?k3) (fun hk3 => ?k4)))
      case' k1 =>
        subst hk1
        by_cases hoff : S.off = true
        case pos =>
          rw [hoff] at e0
          go_wp2
          obtain ⟨⟨h1, h2, h3, h4⟩, _⟩ := hA
          refine ⟨⟨k + 1, by omega, by omega, by go_num, S, hS.more, h1, h2, h3, h4⟩, ?_⟩
          simp [intOf]; omega
        have hoff' : S.off = false := by simpa using hoff
        rw [hoff'] at e0
        go_wp2_with fail
        obtain ⟨⟨h1, h2, h3, h4⟩, h5⟩ := hA
        refine (Cut_any _ _ _ _ n mask h1).mono ?_
        rintro e wc ⟨rfl, hPc, hgc⟩
        have hRc := h2.kept hgc (by simp)
        have hBc : Below b w wc := h3.grown hgc (by omega) (by simp)
        have hsc : b + 2 ≤ wc.heap.size := Nat.le_trans h4 hgc.size
        have h5c := h5.kept hgc (by simp; omega)
        have g1 := h5c.cell 1
        have g2 := h5c.cell 2
        simp at g1 g2
        clear h1 h2 h3 h4 h5 hgc d0 d1 d2 d3 e0
        go_wp2_with fail
        refine (RCut_any _ _ _ _ n mask hRc).mono ?_
        rintro e wx ⟨rfl, hRx, hgx⟩
        have hX2 : Both b w (S.cut n mask) wx := ⟨hPc.kept hgx (by simp), hRx, hBc.grown hgx (by have := hBc.size; omega) (by simp), Nat.le_trans hsc hgx.size⟩
        have hS2 := hS.cut q1 q2
        generalize S.cut n mask = S2 at hX2 hS2
        clear hPc hRx hgx hBc hsc hRc h5c g1 g2 hS hX hoff hoff'
        go_wp2_with fail
      case' k2 =>
        subst hk2
        by_cases hbig : (50 : Int) < ln
        case pos =>
          go_wp2
          go_ret
          exact ⟨rfl, by first | exact hA.1.2.2.1 | (rw [hbn]; exact hA.1.2.2.1)⟩
        go_wp2_with fail
        obtain ⟨⟨h1, h2, h3, h4⟩, h5⟩ := hA
        refine (Fail_any _ _ _ _ _ l h1 h4 (q3'.below (by rw [hbn]; exact h3)) (by omega)).mono ?_
        rintro e wc ⟨rfl, hPc, hgc⟩
        have hRc := h2.kept hgc (by simp)
        have hBc : Below b w wc := h3.grown hgc (by omega) (by simp)
        have hsc : b + 2 ≤ wc.heap.size := Nat.le_trans h4 hgc.size
        have h5c := h5.kept hgc (by simp; omega)
        have g3 := h5c.cell 3
        simp at g3
        have hrow : IRow .i64 wc (.slice lo ln lcap) l := q3'.below (by rw [hbn]; exact hBc)
        clear h1 h2 h3 h4 h5 hgc d0 d1 d2 d3 e0
        go_wp2_with (at_builtin; refine wpList_append_ints rfl _ _ 28 3 .i64 8 Try.underlying28 infoInt rfl (b + 2) _ _ [] l rfl (IOwn.nil _ _ _ _) rfl hrow (by simp; omega) (by unfold maxLen; simp; omega) hsc ?_)
        intro v' wd hown' hg'
        have hg2 : wc.grownBy wd none := hg'
        have hrow' := hown'.row
        have hfrom := hown'.from
        try rw [List.nil_append] at hrow'
        have hPd := hPc.kept hg2 (by simp)
        have hRd := hRc.kept hg2 (by simp)
        have hBd : Below b w wd := hBc.grown hg2 (by have := hBc.size; omega) (by simp)
        have hsd : b + 2 ≤ wd.heap.size := Nat.le_trans hsc hg2.size
        obtain ⟨rv, hRb, _, _, hltc⟩ := hRd
        have g4 := hRb.cell 4
        have f4 := hRb.frozen 4
        simp [rcells] at g4
        obtain ⟨vo, vcap, rfl⟩ := hrow'.of_len
        rw [hll] at hrow' hfrom
        clear hg' hown' hRc hPc hBc hsc hg2 hrow h5c g3
        rw [hll]
        go_wp2_with fail
        have hX2 : Both b w { S with fails := l } (wd.setCell ⟨b + 1, 4, none⟩ (.slice vo ln vcap)) := by
          have hgs := grown_setCell wd (b + 1) 4 (.slice vo ln vcap)
          exact ⟨hPd.kept hgs (by simp), ⟨_, hRb.set 4 _, hrow'.setCell hfrom hltc, hfrom, hltc⟩, hBd.grown hgs (by have := hBd.size; omega) (by simp), Nat.le_trans hsd hgs.size⟩
        have hS2 := hS.fail l
        generalize ({ S with fails := l } : PSt) = S2 at hX2 hS2
        clear hPd hRb hBd hsd hltc hrow' hfrom hS hX g4 f4
      case' k3 =>
        subst hk3
        go_wp2_with fail
        obtain ⟨⟨h1, h2, h3, h4⟩, h5⟩ := hA
        refine (On_any _ _ _ _ h1).mono ?_
        rintro e wc ⟨rfl, hPc, hgc⟩
        have hRc := h2.kept hgc (by simp)
        have hBc : Below b w wc := h3.grown hgc (by omega) (by simp)
        have hsc : b + 2 ≤ wc.heap.size := Nat.le_trans h4 hgc.size
        clear h1 h2 h3 h4 h5 hgc d0 d1 d2 d3 e0
        go_wp2_with fail
        refine (ROn_any _ _ _ _ hRc).mono ?_
        rintro e wx ⟨rfl, hRx, hgx⟩
        have hX2 : Both b w S.on wx := ⟨hPc.kept hgx (by simp), hRx, hBc.grown hgx (by have := hBc.size; omega) (by simp), Nat.le_trans hsc hgx.size⟩
        have hS2 := hS.on
        generalize S.on = S2 at hX2 hS2
        clear hPc hRx hgx hBc hsc hRc hS hX
        go_wp2_with fail
      case' k4 =>
        go_wp2_with fail
        obtain ⟨⟨h1, h2, h3, h4⟩, h5⟩ := hA
        have hS2 := hS.step
        have hSt := Step_any _ _ _ _ k h1 hS (by omega)
        have hRt := fun w' (h : RPow (b + 2) w' (b + 1) S) => RStep_any _ w' _ _ k h hS (by omega)
        obtain ⟨⟨x, y, S2⟩, hst⟩ : ∃ t, S.step = t := ⟨_, rfl⟩
        rw [hst] at hS2 hSt hRt
        refine hSt.mono ?_
        rintro e wc ⟨rfl, hPc, hgc⟩
        have hRc := h2.kept hgc (by simp)
        have hBc : Below b w wc := h3.grown hgc (by omega) (by simp)
        have hsc : b + 2 ≤ wc.heap.size := Nat.le_trans h4 hgc.size
        have hRt' := hRt wc hRc
        clear h1 h2 h3 h4 h5 hgc d0 d1 d2 d3 e0 hSt hRt hst
        go_wp2_with fail
        refine hRt'.mono ?_
        rintro e wx ⟨rfl, hRx, hgx⟩
        have hX2 : Both b w S2 wx := ⟨hPc.kept hgx (by simp), hRx, hBc.grown hgx (by have := hBc.size; omega) (by simp), Nat.le_trans hsc hgx.size⟩
        clear hPc hRx hgx hBc hsc hRc hS hX hRt'
        go_wp2_with fail
      all_goals
        have HS2 := hide hS2
        obtain ⟨r, hr⟩ : ∃ r, S2.failed = r := ⟨_, rfl⟩
        have HR := hide hr
        clear hS2 hr
        go_region_held3 (fun w' => (w'.cell? ⟨b + 1, 0, none⟩ = some (.bool S2.off) ∧ w'.cell? ⟨b + 1, 2, none⟩ = some (.int .u8 S2.mask) ∧ w'.cell? ⟨b + 1, 3, none⟩ = some (.int .i64 S2.steps)) ∧ Both b w S2 w')
          (first
            | assumption
            | exact held_of (hX2.grown (grown_drew _ none))
            | exact held_grown hg16 (by assumption)
            | exact held_grown hg17 (by assumption))
          (first
            | (go_at_call 16; refine (Fails_any (b + 2) _ _ S2 (k + 1) (And.left (And.right (by assumption : Held b w S2 _))) HS2.out (by omega)).mono ?_; rintro e w16 ⟨rfl, hg16⟩; rw [HR.out])
            | (go_at_call 17; refine (RFails_any (b + 2) _ _ S2 (k + 1) (And.left (And.right (And.right (by assumption : Held b w S2 _)))) HS2.out (by omega)).mono ?_; rintro e w17 ⟨rfl, hg17⟩; rw [HR.out])
            | (go_at_call 18; refine (Off_any (b + 2) _ _ S2 (And.left (And.right (by assumption : Held b w S2 _)))).mono ?_; rintro e w18 ⟨rfl, rfl⟩)
            | (go_at_call 19; refine (Mask_any (b + 2) _ _ S2 (And.left (And.right (by assumption : Held b w S2 _)))).mono ?_; rintro e w19 ⟨rfl, rfl⟩)
            | (go_at_call 20; refine (Steps_any (b + 2) _ _ S2 (And.left (And.right (by assumption : Held b w S2 _)))).mono ?_; rintro e w20 ⟨rfl, rfl⟩))
      all_goals
        go_wp2
        refine ⟨⟨k + 1, by omega, by omega, by go_num, S2, HS2.out, held_out (by assumption)⟩, ?_⟩
        simp [intOf]; omega
    · by_cases hl2 : (k : Int) < len
      · have hk3 : ¬ ((k : Int) < 200) := by omega
        clear hs hok
        go_wp2
        go_ret
        exact ⟨rfl, by first | exact hBk | (rw [hbn]; exact hBk)⟩
      · clear hs hok
        go_wp2
        go_ret
        exact ⟨rfl, by first | exact hBk | (rw [hbn]; exact hBk)⟩
end Go.Proofs.Ythocjbcjmcoioaa
