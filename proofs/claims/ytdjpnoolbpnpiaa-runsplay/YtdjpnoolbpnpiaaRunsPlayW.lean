/-
  The walk of garretlaw09.RunsPlay.
-/
import Derived.Test.YtdjpnoolbpnpiaaAwake09
import Derived.Test.YtdjpnoolbpnpiaaRunsN
import Derived.Test.YtdjpnoolbpnpiaaRunsWholeP
import Derived.BigRegion
import Derived.BigQuiet
import Derived.Deep.CutBlock
import Derived.Deep.DeepCutAuto
namespace Go.Proofs.Ytdjpnoolbpnpiaa
open Go.RowKit
set_option linter.unusedVariables false
set_option maxRecDepth 100000

/-- The places of the pages, below 0: a hole. -/
def pF (ps : List Int) : Nat → Option Int := fun k => if ps.getD k 0 < 0 then none else some (ps.getD k 0)
structure GoodP (ps : List Int) : Prop where
  len : ps.length = 64
  rng : ∀ k, k < 64 → -1 ≤ ps.getD k 0 ∧ ps.getD k 0 ≤ 2147483647
theorem pF_fair {ps : List Int} (h : GoodP ps) : Fair (pF ps) := by
  intro k a hk ha
  have := h.rng k hk
  unfold pF at ha
  split at ha
  · cases ha
  · cases ha; omega
theorem pF_set {ps : List Int} (h : GoodP ps) {i : Nat} {t : Int} (ht : 0 ≤ t) (k : Nat) (hk : k < 64) : pF (ps.set i t) k = updF (pF ps) (i : Int) t k := by
  unfold pF updF
  dsimp only
  rw [getD_set (by rw [h.len]; exact hk)]
  by_cases e : i = k
  · subst e; rw [if_pos rfl, if_pos rfl, if_neg (by omega)]
  · rw [if_neg e, if_neg (show ¬ (k : Int) = (i : Int) by omega)]
theorem GoodP.set {ps : List Int} (h : GoodP ps) (i : Nat) {t : Int} (ht : 0 ≤ t ∧ t ≤ 2147483647) : GoodP (ps.set i t) := by
  refine ⟨by rw [List.length_set]; exact h.len, fun k hk => ?_⟩
  rw [getD_set (by rw [h.len]; exact hk)]
  split
  · omega
  · exact h.rng k hk
theorem pF_cut {ps qs : List Int} {C : Nat} (h : ∀ j, j < 64 → qs.getD j 0 = if C ≤ j then -1 else ps.getD j 0) (k : Nat) (hk : k < 64) : pF qs k = cutF (pF ps) (C : Int) k := by
  unfold pF cutF
  dsimp only
  rw [h k hk]
  by_cases e : C ≤ k
  · rw [if_pos e, if_pos (by omega), if_pos (by omega)]
  · rw [if_neg e, if_neg (show ¬ (C : Int) ≤ (k : Int) by omega)]
theorem pF_neg {ps : List Int} {k : Nat} (h : ps.getD k 0 < 0) : pF ps k = none := if_pos h
theorem pF_pos {ps : List Int} {k : Nat} (h : ¬ ps.getD k 0 < 0) : pF ps k = some (ps.getD k 0) := if_neg h
theorem st_none {f : Nat → Option Int} {k : Nat} (h : f k = none) : stF f (k + 1) = stF f k ∧ cntF f (k + 1) = cntF f k := by simp [stF, cntF, startS, h]
theorem st_some {f : Nat → Option Int} {k : Nat} {a : Int} (h : f k = some a) : cntF f (k + 1) = cntF f k + 1 := by simp [cntF, h]
theorem st_yes {f : Nat → Option Int} {k : Nat} (h : startS f k = true) : stF f (k + 1) = stF f k + 1 := by simp [stF, h]
theorem st_no {f : Nat → Option Int} {k : Nat} (h : startS f k = false) : stF f (k + 1) = stF f k := by simp [stF, h]
theorem st_le (f : Nat → Option Int) : ∀ k, stF f k ≤ k ∧ cntF f k ≤ k
  | 0 => ⟨Nat.le_refl _, Nat.le_refl _⟩
  | k + 1 => by
    have := st_le f k
    simp only [stF, cntF]
    constructor <;> split <;> omega
theorem rep_get (n k : Nat) (h : k < n) : (List.replicate n (-1 : Int)).getD k 0 = -1 := by simp [List.getD, h]
/-- All holes. -/
theorem holes : GoodP (List.replicate 64 (-1)) ∧ ∀ k, k < 64 → pF (List.replicate 64 (-1)) k = none := by
  have e : ∀ k, k < 64 → (List.replicate 64 (-1 : Int)).getD k 0 = -1 := fun k hk => rep_get 64 k hk
  exact ⟨⟨by simp, fun k hk => by rw [e k hk]; omega⟩, fun k hk => pF_neg (by rw [e k hk]; omega)⟩
theorem eq_rep {xs : List Int} {n : Nat} (hl : xs.length = n) (h : ∀ j, j < n → xs.getD j 0 = -1) : xs = List.replicate n (-1) := by
  apply List.ext_getElem
  · simp [hl]
  · intro i h1 h2
    have := h i (by omega)
    rw [List.getD, List.getElem?_eq_getElem h1] at this
    simp at this
    simp [this]

theorem opens_op9 (w : World) : Opens Try.prog w 26 (fun cs => ∃ o : Rn, cs = o.cells ∧ o.Wf) := by
  have hI : ∀ w : World, Opens Try.prog w 3 _ := fun w => opens_int Try.underlying3
  intro H enc fuel cs x h
  obtain ⟨xs, n, _, rfl, hl, hlen, hf⟩ := DataW.trod_struct Try.underlying26 h
  have c4 : Try.prog.cellsOf 26 = 3 := by kernel_rfl
  have ci : Try.prog.cellsOf 3 = 1 := by kernel_rfl
  rw [c4] at hl
  match xs, hlen, cs, hl with
  | [y0, y1, y2], _, [v0, v1, v2], _ =>
    have g0 := hf 0 _ rfl
    have g1 := hf 1 _ rfl
    have g2 := hf 2 _ rfl
    simp [ci] at g0 g1 g2
    obtain ⟨a0, h0, p0⟩ := hI w _ _ _ _ _ g0
    obtain ⟨a1, h1, p1⟩ := hI w _ _ _ _ _ g1
    obtain ⟨a2, h2, p2⟩ := hI w _ _ _ _ _ g2
    simp at h0 h1 h2
    subst h0 h1 h2
    exact ⟨⟨a0, a1, a2⟩, rfl, p0, p1, p2⟩
theorem RunsPlay_open0 (w : World) : Opens Try.prog w 22 (fun cs => ∃ v xs, cs = [v] ∧ Seq w 3 Rn.cells v xs ∧ ∀ o ∈ xs, o.Wf) := by
  have h := opens_slice Try.underlying22 Rn.cells Rn.Wf (opens_op9 w)
  rwa [show Try.prog.cellsOf 26 = 3 from by kernel_rfl] at h

/-! ### the slice of what is done, by equations -/
theorem opsTy : Try.prog.underlying 22 = some (.slice (Try.prog.elem 22)) := Try.underlying22
theorem sizeOp (w : World) : (sizeOf (Try.prog.elem 22)).run Try.prog w = .ok 3 w := by kernel_rfl
theorem RRow.lenOp {w : World} {v : Value} {l : List Rn} (h : RRow w v l) (w' : World) (ty : TypeId) : (Builtin.len_ #[22] ty #[v]).run Try.prog w' = .ok (.int .i64 l.length) w' := by
  obtain ⟨ao, cap, rfl⟩ := h.of_len
  simp [Builtin.len_, run_underlying opsTy, goInt]
theorem RRow.idxOp {w : World} {v : Value} {l : List Rn} (h : RRow w v l) (k : Nat) (hk : k < l.length) :
    ∃ (b o : Nat), b < w.heap.size ∧ (∀ w', (Instr.indexAt 22 v (.int .i64 k)).run Try.prog w' = .ok (.pointer (some ⟨b, o, none⟩)) w') ∧
      w.cell? ⟨b, o, none⟩ = some (.int .i64 (l.getD k default).f) ∧ w.cell? ⟨b, o + 1, none⟩ = some (.int .i64 (l.getD k default).a) ∧ w.cell? ⟨b, o + 2, none⟩ = some (.int .i64 (l.getD k default).n) := by
  obtain ⟨b, off, cap, rfl, hlt, hc⟩ := h.1.at (by omega) (by intro x; simp [Rn.cells])
  have e : l[k]? = some (l.getD k default) := by simp [List.getD, List.getElem?_eq_getElem hk]
  have c0 := hc k _ e 0 _ rfl
  have c1 := hc k _ e 1 _ rfl
  have c2 := hc k _ e 2 _ rfl
  refine ⟨b, off + k * 3, hlt, fun w' => ?_, by simpa using c0, c1, c2⟩
  rw [run_indexAt_slice _ _ _ _ _ _ _ opsTy]
  simp [sizeOp, Result.andThen, hk, Addr.add_lit]

theorem ROwn.stay {base : Nat} {w : World} {v : Value} {l : List Rn} (h : ROwn base w v l) (m : Nat) : ROwn base (w.drewN m) v l := h
theorem IOwn.stay {k : IntKind} {e : TypeId} {base : Nat} {w : World} {v : Value} {xs : List Int} (h : IOwn k e base w v xs) (m : Nat) : IOwn k e base (w.drewN m) v xs := h
def zs64 : List Int := List.replicate 64 0
set_option maxHeartbeats 4000000 in
theorem RunsPlay_walk (v : Value) (ops : List Rn) (w : World) (hs : Seq w 3 Rn.cells v ops) (hok : ∀ o ∈ ops, o.Wf) :
    Calls Try.prog 3 #[v] w fun e w' => e = .returned (.bool true) ∧ Below w.heap.size w w' := by
  have hr : RRow w v ops := ⟨hs, hok⟩
  have hol := hr.lenOp
  have hlm := hr.len
  unfold maxLen at hlm
  have HR := hide hr
  have hmk : ∀ w, (Instr.makeSlice 24 (.int .i64 64) (.int .i64 64)).run Try.prog w = .ok (.slice (some ⟨w.heap.size, 0, none⟩) 64 64) (w.alloc (.cells (iv .i64 zs64).toArray 3)) := fun w => run_make_ints w 64 (by omega)
  clear hs hok hr
  obtain ⟨len, hL⟩ : ∃ n, ops.length = n := ⟨_, rfl⟩
  have HL := hide hL
  rw [hL] at hlm
  simp only [hL] at hol
  clear hL
  go_enter Try.func3, Try.ntmps3
  go_wp2_with fail
  have ho0 : IOwn .i64 3 w.heap.size (w.alloc (.cells (iv .i64 zs64).toArray 3)) (.slice (some ⟨w.heap.size, 0, none⟩) 64 64) zs64 := own_ints w 64 (by omega)
  have hb0 := kl_alloc w (.cells (iv .i64 zs64).toArray 3)
  generalize w.alloc (.cells (iv .i64 zs64).toArray 3) = W1 at *
  obtain ⟨g, hg⟩ : ∃ g, w.heap.size = g := ⟨_, rfl⟩
  have HG := hide hg
  rw [hg] at ho0 hb0 ⊢
  clear hg
  go_loopw [20] (fun i wr => ∃ k : Nat, k ≤ 64 ∧ i = .int .i64 k ∧ ∃ xs : List Int, xs.length = 64 ∧ IOwn .i64 3 g wr (.slice (some ⟨g, 0, none⟩) 64 64) xs ∧ (∀ j, j < k → xs.getD j 0 = -1) ∧ Below g w wr) (fun i _ => 64 - (intOf i).toNat)
  case atStart => exact ⟨0, Nat.zero_le _, rfl, zs64, rfl, ho0, fun j hj => by omega, hb0⟩
  case round =>
    obtain ⟨k, hk, rfl, xs, hxl, hown, hxs, hbk⟩ := hrel
    clear ho0 hb0
    by_cases hlt : k < 64
    · have hlt' : (k : Int) < 64 := by omega
      have hc := hown.cellAt hxl k hlt
      have hf := hown.frozenAt hxl k
      have H1 := hide (hown.stored hxl k (-1) (wf_i64 (by omega) (by omega)))
      have H2 := hide (show ∀ j, j < k + 1 → (xs.set k (-1)).getD j 0 = -1 from fun j hj => by
        rw [getD_set (by omega)]
        by_cases e : k = j
        · rw [if_pos e]
        · rw [if_neg e]; exact hxs j (by omega))
      have hB : Below g w (wr.setCell ⟨g, k, none⟩ (.int .i64 (-1))) := hbk.setCell (Nat.le_refl _) _
      clear hown hxs
      go_wp2
      exact ⟨⟨k + 1, by omega, by go_num, xs.set k (-1), by simp [hxl], H1.out, H2.out, hB⟩, by simp [intOf]; omega⟩
    · obtain rfl : k = 64 := by omega
      rw [eq_rep hxl hxs] at hown
      have HO := hide hown
      try rw [show ((64 : Nat) : Int) = 64 from rfl]
      clear hown hxs hlt hxl
      go_wp2
      go_loopw [3, 6] (fun s i wr => ∃ q : Nat, q ≤ min len 80 ∧ i = .int .i64 q ∧ ∃ ps : List Int, GoodP ps ∧ IOwn .i64 3 g wr (.slice (some ⟨g, 0, none⟩) 64 64) ps ∧ ROwn (g + 1) wr s (layS (pF ps) 64) ∧ Below g w wr) (fun _ i _ => 80 - (intOf i).toNat)
      case atStart => exact ⟨0, Nat.zero_le _, rfl, _, holes.1, HO.out, by rw [lay_congr 64 holes.2, lay_empty]; exact ROwn.nil _ _, hbk⟩
      case round =>
        clear hbk HO
        obtain ⟨q, hq, rfl, ps, hgp, hown, hro, hbq⟩ := hrel
        go_upto_region 9 with fail
        go_cut [34] (fun c wx => c = .bool (decide (q < min len 80)) ∧ wx = wr)
        case first =>
          by_cases h1 : q < len
          · have h1' : (q : Int) < len := by omega
            by_cases h2 : q < 80
            · have h2' : (q : Int) < 80 := by omega
              go_wp2
              go_meet
              exact ⟨congrArg Value.bool (decide_eq_true (by omega)).symm, rfl⟩
            · have h2' : ¬ (q : Int) < 80 := by omega
              go_wp2
              go_meet
              exact ⟨congrArg Value.bool (decide_eq_false (by omega)).symm, rfl⟩
          · have h1' : ¬ (q : Int) < len := by omega
            go_wp2
            go_meet
            exact ⟨congrArg Value.bool (decide_eq_false (by omega)).symm, rfl⟩
        case rest =>
          obtain ⟨hc0, rfl⟩ := hcut
          by_cases hlt : q < min len 80
          · obtain ⟨hq1, hq2⟩ : q < len ∧ q < 80 := by omega
            rw [decide_eq_true hlt] at hc0
            subst hc0
            have hq1' : (q : Int) < len := by omega
            obtain ⟨b, o, hbs, hix, c0, c1, c2⟩ := HR.out.idxOp q (by rw [HL.out]; exact hq1)
            have hwf := HR.out.2 _ (getD_mem (show q < ops.length by rw [HL.out]; exact hq1))
            generalize ops.getD q default = op at *
            obtain ⟨f, a, n⟩ := op
            simp only at c0 c1 c2
            have hbg : b < g := by rw [← HG.out]; exact hbs
            have d0 : wc.cell? ⟨b, o, none⟩ = some (.int .i64 f) := (hbq.cell (p := ⟨b, o, none⟩) hbg).trans c0
            have d1 : wc.cell? ⟨b, o + 1, none⟩ = some (.int .i64 a) := (hbq.cell (p := ⟨b, o + 1, none⟩) hbg).trans c1
            have d2 : wc.cell? ⟨b, o + 2, none⟩ = some (.int .i64 n) := (hbq.cell (p := ⟨b, o + 2, none⟩) hbg).trans c2
            have hgl := hown.lt
            have hBl := Blk.new wc #[.int .i64 f, .int .i64 a, .int .i64 n] 26
            have hA := kl_alloc wc (.cells #[.int .i64 f, .int .i64 a, .int .i64 n] 26)
            have HOW := hide (hown.kept hA)
            have HRO := hide (hro.kept hA)
            have hB1 : Below g w (wc.alloc (.cells #[.int .i64 f, .int .i64 a, .int .i64 n] 26)) := hbq.trans (hA.mono (Nat.le_of_lt hgl.2))
            have HGP := hide hgp
            clear hown hro hbq c0 c1 c2 hA hwf hbs
            go_upto_if 43 with fail
            have e0 : (wc.alloc (.cells #[.int .i64 f, .int .i64 a, .int .i64 n] 26)).cell? ⟨wc.heap.size, 0, none⟩ = some (.int .i64 f) := hBl.cell 0
            have e1 : (wc.alloc (.cells #[.int .i64 f, .int .i64 a, .int .i64 n] 26)).cell? ⟨wc.heap.size, 1, none⟩ = some (.int .i64 a) := hBl.cell 1
            clear hBl d0 d1 d2 hix
            have hcw : g < wc.heap.size := hgl.2
            generalize wc.alloc (.cells #[.int .i64 f, .int .i64 a, .int .i64 n] 26) = W at *
            generalize wc.heap.size = c at *
            have hgW : g ≤ W.heap.size := Nat.le_of_lt HOW.out.lt.2
            have hgW1 : g + 1 ≤ W.heap.size := HOW.out.lt.2
            have hfair := pF_fair HGP.out
            go_cut [3] (fun s3 wx => ∃ qs : List Int, GoodP qs ∧ IOwn .i64 3 g wx (.slice (some ⟨g, 0, none⟩) 64 64) qs ∧ ROwn (g + 1) wx s3 (layS (pF qs) 64) ∧ Below g w wx)
            case first =>
              by_cases hn : n < 0
              · obtain ⟨C, hC, eC⟩ := cut_m f 65 (by omega) (by omega)
                have hC' : C ≤ 64 := by omega
                have hcl := cut_lay hfair (C : Int)
                clear hfair hC
                go_wp2_with fail
                refine (Cut9_any W _ (layS (pF ps) 64) (C : Int) HRO.out.row).mono ?_
                rintro e w2 ⟨u2, rfl, ho2, hb2⟩
                rw [hcl] at ho2
                have HR2 := hide (ho2.mono hgW1)
                have HO2 := hide (HOW.out.kept hb2)
                have hB2 : Below g w w2 := hB1.trans (hb2.mono hgW)
                clear ho2 hb2 hcl hB1 HOW HRO e0 e1
                try simp only [eC]
                clear eC
                go_wp2_with fail
                go_loopw [9] (fun i wr => ∃ k : Nat, C ≤ k ∧ k ≤ 64 ∧ i = .int .i64 k ∧ ∃ qs : List Int, qs.length = 64 ∧ (∀ j, j < 64 → qs.getD j 0 = if C ≤ j ∧ j < k then -1 else ps.getD j 0) ∧ IOwn .i64 3 g wr (.slice (some ⟨g, 0, none⟩) 64 64) qs ∧ ROwn (g + 1) wr u2 (layS (cutF (pF ps) (C : Int)) 64) ∧ Below g w wr) (fun i _ => 64 - (intOf i).toNat)
                case atStart => exact ⟨C, Nat.le_refl _, hC', rfl, ps, HGP.out.len, fun j hj => by rw [if_neg (by omega)], HO2.out, HR2.out, hB2⟩
                case round =>
                  obtain ⟨k, hCk, hk64, rfl, qs, hql, hqs, how, hrw, hbw⟩ := hrel
                  clear hB2 HO2 HR2
                  by_cases hkl : k < 64
                  · have hkl' : (k : Int) < 64 := by omega
                    have hck := how.cellAt hql k hkl
                    have hfk := how.frozenAt hql k
                    have hgr := how.lt
                    have H1 := hide (how.stored hql k (-1) (wf_i64 (by omega) (by omega)))
                    have H2 := hide (show ∀ j, j < 64 → (qs.set k (-1)).getD j 0 = if C ≤ j ∧ j < k + 1 then -1 else ps.getD j 0 from fun j hj => by
                      rw [getD_set (by omega)]
                      by_cases e : k = j
                      · rw [if_pos e, if_pos (by omega)]
                      · rw [if_neg e, hqs j hj]
                        by_cases e2 : C ≤ j ∧ j < k
                        · rw [if_pos e2, if_pos (by omega)]
                        · rw [if_neg e2, if_neg (by omega)])
                    have H3 := hide (show (qs.set k (-1)).length = 64 by rw [List.length_set]; exact hql)
                    have hB3 : Below g w (wr.setCell ⟨g, k, none⟩ (.int .i64 (-1))) := hbw.setCell (Nat.le_refl _) _
                    have H4 := hide (hrw.grown (grown_setCell wr g k (.int .i64 (-1))) (fun k e => by cases e; exact Nat.lt_succ_self _))
                    clear how hrw hqs hbw
                    go_wp2
                    exact ⟨⟨k + 1, by omega, by omega, by go_num, _, H3.out, H2.out, H1.out, H4.out, hB3⟩, by simp [intOf]; omega⟩
                  · obtain rfl : k = 64 := by omega
                    have hq2 : ∀ j, j < 64 → qs.getD j 0 = if C ≤ j then -1 else ps.getD j 0 := fun j hj => by
                      rw [hqs j hj]
                      by_cases e : C ≤ j
                      · rw [if_pos ⟨e, hj⟩, if_pos e]
                      · rw [if_neg (by omega), if_neg e]
                    have HGQ := hide (show GoodP qs from ⟨hql, fun k hk => by
                      rw [hq2 k hk]
                      split
                      · omega
                      · exact HGP.out.rng k hk⟩)
                    have HRQ := hide (show ROwn (g + 1) wr u2 (layS (pF qs) 64) by rw [lay_congr 64 (pF_cut hq2)]; exact hrw)
                    have HOQ := hide how
                    clear how hrw hqs hq2
                    go_wp2
                    go_meet
                    exact ⟨qs, HGQ.out, HOQ.out, HRQ.out, hbw⟩
              · obtain ⟨K, hK, eK⟩ := cut_m f 64 (by omega) (by omega)
                obtain ⟨T, hT, eT⟩ := cut_m a 2147483648 (by omega) (by omega)
                have hK' : K < 64 := by omega
                have hK2 : (K : Int) < 64 := by omega
                have hT' : T ≤ 2147483647 := by omega
                have hsl := set_lay hfair (i := (K : Int)) (a := (T : Int)) (by omega) (by omega)
                clear hfair hK hT
                go_wp2_with fail
                refine (Set_any W _ (layS (pF ps) 64) (K : Int) (T : Int) HRO.out.row (wf_small (by omega)) (wf_small (by omega))).mono ?_
                rintro e w2 ⟨u2, rfl, ho2, hb2⟩
                rw [hsl] at ho2
                have hO2 := HOW.out.kept hb2
                have hck := hO2.cellAt HGP.out.len K hK'
                have hfk := hO2.frozenAt HGP.out.len K
                have H1 := hide (hO2.stored HGP.out.len K (T : Int) (wf_i64 (by omega) (by omega)))
                have H2 := hide (HGP.out.set K (t := (T : Int)) (by omega))
                have hR2 := (ho2.mono hgW1).grown (grown_setCell w2 g K (.int .i64 (T : Int))) (fun k e => by cases e; exact Nat.lt_succ_self _)
                have H4 := hide (show ROwn (g + 1) (w2.setCell ⟨g, K, none⟩ (.int .i64 (T : Int))) u2 (layS (pF (ps.set K (T : Int))) 64) by
                  rw [lay_congr 64 (pF_set HGP.out (i := K) (t := (T : Int)) (by omega))]; exact hR2)
                have hB2 : Below g w (w2.setCell ⟨g, K, none⟩ (.int .i64 (T : Int))) := (hB1.trans (hb2.mono hgW)).setCell (Nat.le_refl _) _
                clear ho2 hb2 hO2 hR2 hsl e0 e1
                go_wp2
                go_meet
                exact ⟨_, H2.out, H1.out, H4.out, hB2⟩
            case rest =>
              obtain ⟨qs, hgq, how, hrw, hbw⟩ := hcut
              clear HOW HRO HGP hfair hB1 e0 e1
              have hok := lay_ok (pF_fair hgq) 64 (Nat.le_refl _)
              have HTB := hide (show ∀ k : Nat, k < 64 → getS (layS (pF qs) 64) k = pF qs k from hok.get)
              have HRI := hide hok.right
              have HCN := hide (show (if rightS (layS (pF qs) 64) then cntS (layS (pF qs) 64) else 0) = (cntF (pF qs) 64 : Int) by rw [hok.right, if_pos rfl, hok.cnt])
              have HPL := hide (show ((if rightS (layS (pF qs) 64) then pgsS (layS (pF qs) 64) else []).length : Int) = (cntF (pF qs) 64 : Int) by rw [hok.right, if_pos rfl, pgs_len hok.right, hok.cnt])
              have HLN := hide (show (layS (pF qs) 64).length = stF (pF qs) 64 from hok.len)
              have HMI := hide (show ∀ r ∈ layS (pF qs) 64, r.Mild from fun r hr => Rn.mild_of r (right_all hok.right r hr))
              have HGQ := hide hgq
              have HLE := hide (st_le (pF qs))
              clear hok hgq
              generalize hf : pF qs = F at *
              have HF := hide hf
              clear hf
              go_wp2_with fail
              go_loopw [12, 13, 14] (fun s12 s13 i wr => ∃ k : Nat, k ≤ 64 ∧ i = .int .i64 k ∧ s12 = .int .i64 (stF F k) ∧ s13 = .int .i64 (cntF F k) ∧ IOwn .i64 3 g wr (.slice (some ⟨g, 0, none⟩) 64 64) qs ∧ ROwn (g + 1) wr u3 (layS F 64) ∧ Below g w wr) (fun _ _ i _ => 64 - (intOf i).toNat)
              case atStart => exact ⟨0, Nat.zero_le _, rfl, rfl, rfl, how, hrw, hbw⟩
              case round =>
                clear how hrw hbw
                obtain ⟨k, hk, rfl, rfl, rfl, how, hrw, hbw⟩ := hrel
                have hle := HLE.out k
                by_cases hkl : k < 64
                · have hkl' : (k : Int) < 64 := by omega
                  have hgr := how.lt
                  have hgs : g + 1 ≤ wr.heap.size := hgr.2
                  have hge := Get_any wr u3 (layS F 64) (k : Int) hrw.row HMI.out (by omega)
                  rw [HTB.out k hkl] at hge
                  obtain ⟨p, hp⟩ : ∃ p, qs.getD k 0 = p := ⟨_, rfl⟩
                  have HO := hide how
                  have HR4 := hide hrw
                  have HB := hide hbw
                  clear how hrw hbw
                  by_cases hneg : p < 0
                  · have hfk : F k = none := by rw [← HF.out]; exact pF_neg (by rw [hp]; exact hneg)
                    rw [hfk] at hge
                    have HST := hide (st_none hfk)
                    clear hfk
                    go_wp2_with fail
                    refine hge.mono ?_
                    rintro e w2 ⟨rfl, hb2⟩
                    have hO2 := HO.out.kept hb2
                    have hck := hO2.cellAt HGQ.out.len k hkl
                    rw [hp] at hck
                    have HO2 := hide hO2
                    have HR2 := hide (HR4.out.kept hb2)
                    have hB2 : Below g w w2 := HB.out.trans (hb2.mono (by omega))
                    have dneg : decide (0 ≤ p) = false := decide_eq_false (by omega)
                    clear hb2 hO2 hge hp
                    simp only [Option.getD_none, Option.isSome_none]
                    go_wp2
                    exact ⟨⟨k + 1, by omega, by go_num, by rw [HST.out.1], by rw [HST.out.2], HO2.out, HR2.out, hB2⟩, by simp [intOf]; omega⟩
                  · have hfk : F k = some p := by rw [← HF.out, ← hp]; exact pF_pos (by rw [hp]; exact hneg)
                    rw [hfk] at hge
                    have hpr := (HGQ.out.rng k hkl).2
                    rw [hp] at hpr
                    have HST := hide (st_some hfk)
                    have dpos : decide (0 ≤ p) = true := decide_eq_true (by omega)
                    by_cases hk0 : k = 0
                    · subst hk0
                      have HSS := hide (st_yes (f := F) (k := 0) (by simp [startS, hfk]))
                      clear hfk
                      go_wp2_with fail
                      refine hge.mono ?_
                      rintro e w2 ⟨rfl, hb2⟩
                      have hO2 := HO.out.kept hb2
                      have hck := hO2.cellAt HGQ.out.len 0 (by omega)
                      rw [hp] at hck
                      have HO2 := hide hO2
                      have HR2 := hide (HR4.out.kept hb2)
                      have hB2 : Below g w w2 := HB.out.trans (hb2.mono (by omega))
                      clear hb2 hO2 hge hp
                      simp only [Option.getD_some, Option.isSome_some]
                      go_wp2_with fail
                      go_quiet (fail)
                      go_wp2
                      go_roundw
                      case rel => exact ⟨0 + 1, by omega, by go_num, by rw [HSS.out]; go_num, by rw [HST.out]; go_num, HO2.out.stay _, HR2.out.stay _, below_drewN' hB2 _⟩
                      case measure => simp [intOf]
                    · obtain ⟨j, hjk⟩ : ∃ j, k - 1 = j := ⟨_, rfl⟩
                      have hj : (k : Int) - 1 = (j : Int) := by omega
                      have hwj : IntKind.i64.wrap (j : Int) = (j : Int) := in64 _ (by omega)
                      have hj64 : (j : Int) < 64 := by omega
                      have hk0' : ((k : Int) == 0) = false := by simp; omega
                      obtain ⟨pv, hpv⟩ : ∃ p, qs.getD j 0 = p := ⟨_, rfl⟩
                      have hpvr := HGQ.out.rng j (by omega)
                      rw [hpv] at hpvr
                      by_cases hpn : pv < 0
                      · have HSS := hide (st_yes (f := F) (k := k) (by simp only [startS, hfk, hjk]; rw [← HF.out, pF_neg (by rw [hpv]; exact hpn)]; simp))
                        have dpn : decide (pv < 0) = true := decide_eq_true hpn
                        clear hfk hjk
                        go_wp2_with fail
                        refine hge.mono ?_
                        rintro e w2 ⟨rfl, hb2⟩
                        have hO2 := HO.out.kept hb2
                        have hck := hO2.cellAt HGQ.out.len k hkl
                        rw [hp] at hck
                        have hcj := hO2.cellAt HGQ.out.len j (by omega)
                        rw [hpv] at hcj
                        have HO2 := hide hO2
                        have HR2 := hide (HR4.out.kept hb2)
                        have hB2 : Below g w w2 := HB.out.trans (hb2.mono (by omega))
                        clear hb2 hO2 hge hp
                        simp only [Option.getD_some, Option.isSome_some]
                        go_wp2_with fail
                        go_quiet (fail)
                        go_wp2
                        go_roundw
                        case rel => exact ⟨k + 1, by omega, by go_num, by rw [HSS.out]; go_num, by rw [HST.out]; go_num, HO2.out.stay _, HR2.out.stay _, below_drewN' hB2 _⟩
                        case measure => simp [intOf]; omega
                      · by_cases hpe : pv + 1 = p
                        · have HSS := hide (st_no (f := F) (k := k) (by simp only [startS, hfk, hjk]; rw [← HF.out, pF_pos (by rw [hpv]; exact hpn), hpv]; simp [hpe] <;> omega))
                          have dpn : decide (pv < 0) = false := decide_eq_false hpn
                          have dpe : (pv + 1 != p) = false := by simpa using hpe
                          clear hfk hjk hpe
                          go_wp2_with fail
                          refine hge.mono ?_
                          rintro e w2 ⟨rfl, hb2⟩
                          have hO2 := HO.out.kept hb2
                          have hck := hO2.cellAt HGQ.out.len k hkl
                          rw [hp] at hck
                          have hcj := hO2.cellAt HGQ.out.len j (by omega)
                          rw [hpv] at hcj
                          have HO2 := hide hO2
                          have HR2 := hide (HR4.out.kept hb2)
                          have hB2 : Below g w w2 := HB.out.trans (hb2.mono (by omega))
                          clear hb2 hO2 hge hp
                          simp only [Option.getD_some, Option.isSome_some]
                          go_wp2_with fail
                          go_quiet (fail)
                          go_wp2
                          go_roundw
                          case rel => exact ⟨k + 1, by omega, by go_num, by rw [HSS.out], by rw [HST.out]; go_num, HO2.out.stay _, HR2.out.stay _, below_drewN' hB2 _⟩
                          case measure => simp [intOf]; omega
                        · have HSS := hide (st_yes (f := F) (k := k) (by simp only [startS, hfk, hjk]; rw [← HF.out, pF_pos (by rw [hpv]; exact hpn), hpv]; simp [hpe]))
                          have dpn : decide (pv < 0) = false := decide_eq_false hpn
                          have dpe : (pv + 1 != p) = true := by simpa using hpe
                          clear hfk hjk hpe
                          go_wp2_with fail
                          refine hge.mono ?_
                          rintro e w2 ⟨rfl, hb2⟩
                          have hO2 := HO.out.kept hb2
                          have hck := hO2.cellAt HGQ.out.len k hkl
                          rw [hp] at hck
                          have hcj := hO2.cellAt HGQ.out.len j (by omega)
                          rw [hpv] at hcj
                          have HO2 := hide hO2
                          have HR2 := hide (HR4.out.kept hb2)
                          have hB2 : Below g w w2 := HB.out.trans (hb2.mono (by omega))
                          clear hb2 hO2 hge hp
                          simp only [Option.getD_some, Option.isSome_some]
                          go_wp2_with fail
                          go_quiet (fail)
                          go_wp2
                          go_roundw
                          case rel => exact ⟨k + 1, by omega, by go_num, by rw [HSS.out]; go_num, by rw [HST.out]; go_num, HO2.out.stay _, HR2.out.stay _, below_drewN' hB2 _⟩
                          case measure => simp [intOf]; omega
                · obtain rfl : k = 64 := by omega
                  have hgr := how.lt
                  have hgs : g + 1 ≤ wr.heap.size := hgr.2
                  have hlr : ∀ (w' : World) (ty : TypeId), (Builtin.len_ #[23] ty #[u3]).run Try.prog w' = .ok (.int .i64 (stF F 64)) w' := fun w' ty => by
                    have := hrw.row.lenRun w' ty
                    rwa [HLN.out] at this
                  have HO := hide how
                  have HR4 := hide hrw
                  have HB := hide hbw
                  clear how hrw hbw
                  generalize hst : stF F 64 = st at *
                  generalize hct : cntF F 64 = ct at *
                  clear hst hct
                  go_wp2_with fail
                  refine (Right_any wr _ _ HR4.out.row).mono ?_
                  rintro e w2 ⟨rfl, hb2⟩
                  rw [HRI.out]
                  have HO2 := hide (HO.out.kept hb2)
                  have HR2 := hide (HR4.out.kept hb2)
                  have hB2 : Below g w w2 := HB.out.trans (hb2.mono (by omega))
                  have hg2 : g ≤ w2.heap.size := by have := hb2.size; omega
                  clear hb2 HB HO HR4
                  go_wp2_with fail
                  refine (Count_any w2 _ _ HR2.out.row).mono ?_
                  rintro e w3 ⟨rfl, hb3⟩
                  rw [HCN.out]
                  have HO3 := hide (HO2.out.kept hb3)
                  have HR3 := hide (HR2.out.kept hb3)
                  have hB3 : Below g w w3 := hB2.trans (hb3.mono hg2)
                  have hg3 : g ≤ w3.heap.size := Nat.le_trans hg2 hb3.size
                  clear hb3 hB2 HO2 HR2
                  go_wp2_with fail
                  refine (Pages_any w3 _ _ HR3.out.row).mono ?_
                  rintro e w4 ⟨u4, rfl, ho4, hb4⟩
                  have hl4 : ∀ (w' : World) (ty : TypeId), (Builtin.len_ #[24] ty #[u4]).run Try.prog w' = .ok (.int .i64 ct) w' := fun w' ty => by
                    have := ho4.row.lenI w' ty
                    rwa [HPL.out] at this
                  have HO4 := hide (HO3.out.kept hb4)
                  have HR5 := hide (HR3.out.kept hb4)
                  have hB4 : Below g w w4 := hB3.trans (hb4.mono hg3)
                  clear hb4 hB3 HO3 HR3 ho4
                  go_wp2
                  go_roundw
                  case rel => exact ⟨q + 1, by omega, by go_num, qs, HGQ.out, HO4.out, by rw [HF.out]; exact HR5.out, hB4⟩
                  case measure => simp [intOf]; omega
          · rw [decide_eq_false hlt] at hc0
            subst hc0
            have HB := hide hbq
            have hgl := hown.lt
            clear hown hro hgp hbq hlt
            go_wp2_with fail
            refine (awake9_any _).mono ?_
            rintro e w5 ⟨rfl, hb5⟩
            have hB5 : Below g w w5 := HB.out.trans (hb5.mono (Nat.le_of_lt hgl.2))
            go_wp2
            go_ret
            exact ⟨rfl, by rw [HG.out]; exact hB5⟩
end Go.Proofs.Ytdjpnoolbpnpiaa
