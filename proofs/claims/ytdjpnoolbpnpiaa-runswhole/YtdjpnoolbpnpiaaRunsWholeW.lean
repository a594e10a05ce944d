/-
  The walk of garretlaw09.RunsWhole.
-/
import Derived.Test.YtdjpnoolbpnpiaaAwake09
import Derived.Test.YtdjpnoolbpnpiaaRunsN
import Derived.Test.YtdjpnoolbpnpiaaRunsWholeP
import Derived.BigRegion
import Derived.Deep.CutBlock
import Derived.Deep.DeepCutAuto
namespace Go.Proofs.Ytdjpnoolbpnpiaa
open Go.RowKit
set_option linter.unusedVariables false
set_option maxRecDepth 100000

theorem one_step {c o : Nat} {x : Value} {w0 w w' : World} (hb : Below w.heap.size w w') (h : w.cell? ⟨c, o, none⟩ = some x ∧ Below w0.heap.size w0 w) : w'.cell? ⟨c, o, none⟩ = some x ∧ Below w0.heap.size w0 w' :=
  ⟨kl_cell hb h.1, h.2.trans (hb.mono h.2.size)⟩

set_option maxHeartbeats 4000000 in
theorem RunsWhole_walk (n0 f0 a0 o0 : Int) (tv : Value) (ts : List Int) (w : World) (w0 : (Lit.int .i64 n0).wf = true) (w1 : (Lit.int .i64 f0).wf = true) (w2 : (Lit.int .i64 a0).wf = true) (w3 : (Lit.int .i64 o0).wf = true) (w4 : IRow .i64 w tv ts) :
    Calls Try.prog 4 #[.int .i64 n0, .int .i64 f0, .int .i64 a0, .int .i64 o0, tv] w fun e w' => e = .returned (.bool true) ∧ Below w.heap.size w w' := by
  obtain ⟨n1, hn1, en1⟩ := cut_m n0 20 (by omega) (by omega)
  obtain ⟨F, hF, eF⟩ := cut_m f0 40 (by omega) (by omega)
  obtain ⟨A, hA, eA⟩ := cut_m a0 100000 (by omega) (by omega)
  obtain ⟨N, hN⟩ : ∃ N : Nat, N = 3 + n1 := ⟨_, rfl⟩
  have eN : (3 : Int) + (n1 : Int) = (N : Int) := by omega
  have hN3 : 3 ≤ N := by omega
  have hN22 : N ≤ 22 := by omega
  obtain ⟨O, hO, eO⟩ := cut_m o0 (N : Int) (by omega) (by omega)
  have hF' : F < 40 := by omega
  have hA' : A < 100000 := by omega
  have hO' : O < N := by omega
  have hNz : ¬ (N : Int) = 0 := by omega
  have uN : IntKind.u64.wrap (N : Int) = (N : Int) := u64_in _ (by omega)
  have htl := w4.lenI
  have htm := w4.len
  unfold maxLen at htm
  have HTV := hide w4
  have hmk := fun w => run_make_ints w N (by omega)
  have HN := hide hN
  clear hN w4 w0 w1 w2 w3 hn1 hF hA hO
  obtain ⟨len, hL⟩ : ∃ n, ts.length = n := ⟨_, rfl⟩
  have HL := hide hL
  rw [hL] at htm
  simp only [hL] at htl
  clear hL
  go_enter Try.func4, Try.ntmps4
  go_wp2_with fail
  have ho0 := own_ints w N (by omega)
  have hb0 := kl_alloc w (.cells (iv .i64 (List.replicate N 0)).toArray 3)
  generalize w.alloc (.cells (iv .i64 (List.replicate N 0)).toArray 3) = W1 at *
  obtain ⟨g, hg⟩ : ∃ g, w.heap.size = g := ⟨_, rfl⟩
  have HG := hide hg
  rw [hg] at ho0 hb0 ⊢
  clear hg
  try simp only [en1, eF, eA, eO]
  clear en1 eF eA eO
  go_loopw [42] (fun i wr => ∃ k : Nat, k ≤ N ∧ i = .int .i64 k ∧ ∃ xs : List Int, xs.length = N ∧ IOwn .i64 3 g wr (.slice (some ⟨g, 0, none⟩) N N) xs ∧ (∀ j, j < k → xs.getD j 0 = (j : Int)) ∧ Below g w wr) (fun i _ => N - (intOf i).toNat)
  case atStart => exact ⟨0, Nat.zero_le _, rfl, List.replicate N 0, by simp, ho0, fun j hj => by omega, hb0⟩
  case round =>
    obtain ⟨k, hk, rfl, xs, hxl, hown, hxs, hbk⟩ := hrel
    clear ho0 hb0
    by_cases hlt : k < N
    · have hlt' : (k : Int) < N := by omega
      have hc := hown.cellAt hxl k hlt
      have hf := hown.frozenAt hxl k
      have H1 := hide (hown.stored hxl k (k : Int) (wf_i64 (by omega) (by omega)))
      have H2 := hide (show ∀ j, j < k + 1 → (xs.set k (k : Int)).getD j 0 = (j : Int) from fun j hj => by
        rw [getD_set (by omega)]
        by_cases e : k = j
        · rw [if_pos e, e]
        · rw [if_neg e]; exact hxs j (by omega))
      have hB : Below g w (wr.setCell ⟨g, k, none⟩ (.int .i64 (k : Int))) := hbk.setCell (Nat.le_refl _) _
      clear hown hxs
      go_wp2
      exact ⟨⟨k + 1, by omega, by go_num, xs.set k (k : Int), by simp [hxl], H1.out, H2.out, hB⟩, by simp [intOf]; omega⟩
    · obtain rfl : N = k := by omega
      have hall : AllN xs N := ⟨hxl, fun i hi => by rw [hxs i hi]; omega, fun y hy => ⟨y, hy, hxs y hy⟩⟩
      have HO := hide hown
      have HALL := hide hall
      clear hown hxs hall hlt
      go_wp2
      go_loopw [13] (fun i wr => ∃ q : Nat, q ≤ min len 30 ∧ i = .int .i64 q ∧ ∃ xs : List Int, AllN xs N ∧ IOwn .i64 3 g wr (.slice (some ⟨g, 0, none⟩) N N) xs ∧ Below g w wr) (fun i _ => 30 - (intOf i).toNat)
      case atStart => exact ⟨0, Nat.zero_le _, rfl, xs, HALL.out, HO.out, hbk⟩
      case round =>
        clear hbk HALL HO
        obtain ⟨q, hq, rfl, ys, hall, hown, hbq⟩ := hrel
        go_upto_region 10 with fail
        go_cut [57] (fun c wx => c = .bool (decide (q < min len 30)) ∧ wx = wr)
        case first =>
          by_cases h1 : q < len
          · have h1' : (q : Int) < len := by omega
            by_cases h2 : q < 30
            · have h2' : (q : Int) < 30 := by omega
              go_wp2
              go_meet
              exact ⟨congrArg Value.bool (decide_eq_true (by omega)).symm, rfl⟩
            · have h2' : ¬ (q : Int) < 30 := by omega
              go_wp2
              go_meet
              exact ⟨congrArg Value.bool (decide_eq_false (by omega)).symm, rfl⟩
          · have h1' : ¬ (q : Int) < len := by omega
            go_wp2
            go_meet
            exact ⟨congrArg Value.bool (decide_eq_false (by omega)).symm, rfl⟩
        case rest =>
          obtain ⟨hc0, rfl⟩ := hcut
          by_cases hlt : q < min len 30
          · obtain ⟨hq1, hq2⟩ : q < len ∧ q < 30 := by omega
            rw [decide_eq_true hlt] at hc0
            subst hc0
            have hq1' : (q : Int) < len := by omega
            have hq2' : (q : Int) < 30 := by omega
            obtain ⟨b, o, hbs, hix, hc⟩ := HTV.out.idxI q (by rw [HL.out]; exact hq1)
            have hcw : wc.cell? ⟨b, o, none⟩ = some (.int .i64 (ts.getD q 0)) := (hbq.cell (p := ⟨b, o, none⟩) (by rw [← HG.out]; exact hbs)).trans hc
            obtain ⟨x, hx⟩ : ∃ x, ts.getD q 0 = x := ⟨_, rfl⟩
            rw [hx] at hcw
            obtain ⟨K, hK, eK⟩ := cut_m x (N : Int) (by omega) (by omega)
            have hK' : K < N := by omega
            obtain ⟨P, hP⟩ : ∃ P, q % N = P := ⟨_, rfl⟩
            have hP' : P < N := by rw [← hP]; exact Nat.mod_lt _ (by omega)
            have eP1 : (q : Int) % (N : Int) = (P : Int) := by rw [← hP]; rfl
            have eP2 : (q : Int).tmod (N : Int) = (P : Int) := by rw [Int.tmod_eq_emod_of_nonneg (by omega)]; exact eP1
            have wP : IntKind.i64.wrap (P : Int) = (P : Int) := in64 _ (by omega)
            have hcP := hown.cellAt hall.len P hP'
            have hcK := hown.cellAt hall.len K hK'
            have hfP := hown.frozenAt hall.len P
            have hfK := hown.frozenAt hall.len K
            have hrK := hall.rng K hK'
            have hrP := hall.rng P hP'
            have hK1 : (K : Int) < N := by omega
            have hP1 : (P : Int) < N := by omega
            have h1 := hown.stored hall.len P (ys.getD K 0) (wf_i64 (by omega) (by omega))
            have h2 := h1.stored (by rw [List.length_set]; exact hall.len) K (ys.getD P 0) (wf_i64 (by omega) (by omega))
            have HALL := hide (hall.swap hP' hK')
            have HOW := hide h2
            have hB : Below g w ((wc.setCell ⟨g, P, none⟩ (.int .i64 (ys.getD K 0))).setCell ⟨g, K, none⟩ (.int .i64 (ys.getD P 0))) := (hbq.setCell (Nat.le_refl _) _).setCell (Nat.le_refl _) _
            clear h1 h2 hall hbq hc hx hP hrK hrP hK
            by_cases hPK : P = K
            · subst hPK
              generalize ys.getD P 0 = yP at *
              clear hcK hfK hown
              go_wp2_with fail
              go_region
              all_goals
                go_wp2
                exact ⟨⟨q + 1, by omega, by go_num, _, HALL.out, HOW.out.drew, hB.drew⟩, by simp [intOf]; omega⟩
            · have hKP : ¬ K = P := fun e => hPK e.symm
              generalize ys.getD K 0 = yK at *
              generalize ys.getD P 0 = yP at *
              clear hown
              go_wp2_with fail
              go_region
              all_goals
                go_wp2
                exact ⟨⟨q + 1, by omega, by go_num, _, HALL.out, HOW.out.drew, hB.drew⟩, by simp [intOf]; omega⟩
          · rw [decide_eq_false hlt] at hc0
            subst hc0
            have HALL := hide hall
            have HOW := hide hown
            clear hall hown hlt
            go_wp2
            go_loopw [15, 16] (fun s i wr => ∃ z : Nat, z ≤ N ∧ i = .int .i64 z ∧ ROwn g wr s (layS (fillF F A ys z) 64) ∧ IOwn .i64 3 g wr (.slice (some ⟨g, 0, none⟩) N N) ys ∧ Below g w wr) (fun _ i _ => N - (intOf i).toNat)
            case atStart => exact ⟨0, Nat.zero_le _, rfl, by rw [show layS (fillF F A ys 0) 64 = [] from lay_empty 64]; exact ROwn.nil _ _, HOW.out, hbq⟩
            case round =>
              clear hbq HOW
              obtain ⟨z, hz, rfl, hro, hown, hbz⟩ := hrel
              have hff := fill_fair (F := F) (a := A) HALL.out (by omega) (by omega) z hz
              have hgz := hown.lt
              by_cases hlt : z < N
              · have hlt' : (z : Int) < N := by omega
                have hrx := HALL.out.rng z hlt
                have hcz := hown.cellAt HALL.out.len z hlt
                have hset := set_lay hff (i := (F : Int) + ys.getD z 0) (a := (A : Int) + ys.getD z 0) (by omega) (by omega)
                have HNX := hide (show layS (updF (fillF F A ys z) ((F : Int) + ys.getD z 0) ((A : Int) + ys.getD z 0)) 64 = layS (fillF F A ys (z + 1)) 64 from rfl)
                rw [HNX.out] at hset
                clear HNX
                generalize hL : layS (fillF F A ys z) 64 = L at *
                generalize ys.getD z 0 = x at *
                obtain ⟨y1, hy1⟩ : ∃ y, (F : Int) + x = y := ⟨_, rfl⟩
                obtain ⟨y2, hy2⟩ : ∃ y, (A : Int) + x = y := ⟨_, rfl⟩
                rw [hy1, hy2] at hset
                have wy1 : IntKind.i64.wrap y1 = y1 := in64 _ (by omega)
                have wy2 : IntKind.i64.wrap y2 = y2 := in64 _ (by omega)
                have hw1 : (Lit.int .i64 y1).wf = true := wf_small (by omega)
                have hw2 : (Lit.int .i64 y2).wf = true := wf_small (by omega)
                have HSET := hide hset
                have HRO := hide hro
                have HOW := hide hown
                have HBZ := hide hbz
                have HS := hide (show wr.cell? ⟨g, z, none⟩ = some (.int .i64 x) ∧ Below wr.heap.size wr wr from ⟨hcz, Below.refl _ _⟩)
                clear hset hro hown hbz hcz hff hL hrx
                go_wp2_with fail
                go_region_held3 (fun w' => w'.cell? ⟨g, z, none⟩ = some (.int .i64 x) ∧ Below wr.heap.size wr w')
                  (first
                    | assumption
                    | exact one_step (kl_drew _) HS.out
                    | exact one_step hb9 (by assumption)
                    | fail)
                  (first
                    | (go_at_call 7; refine (Set_any _ _ _ y1 y2 (HRO.out.row.below (three_below (by assumption))) hw1 hw2).mono ?_; rintro e w9 ⟨u9, rfl, ho9, hb9⟩)
                    | fail)
                have hX : wr.cell? ⟨g, z, none⟩ = some (.int .i64 x) ∧ Below wr.heap.size wr wr := HS.out
                have hX9 : w9.cell? ⟨g, z, none⟩ = some (.int .i64 x) ∧ Below wr.heap.size wr w9 := by assumption
                rw [HSET.out] at ho9
                have hB9 : Below g w w9 := HBZ.out.trans (hX9.2.mono (Nat.le_of_lt hgz.2))
                have HO9 := hide (HOW.out.kept hX9.2)
                have HR9 := hide (ho9.mono (Nat.le_of_lt hgz.2))
                clear ho9 hX hX9 hb9
                go_wp2
                exact ⟨⟨z + 1, by omega, by go_num, HR9.out, HO9.out, hB9⟩, by simp [intOf]; omega⟩
              · obtain rfl : N = z := by omega
                have hlr : layS (rowF F A N) 64 = [⟨F, A, N⟩] := lay_row (by omega) (by omega)
                have hlay : layS (fillF F A ys N) 64 = [⟨F, A, N⟩] := (lay_congr 64 (fun k _ => fill_all HALL.out k)).trans hlr
                have hrf : Fair (rowF F A N) := row_fair (by omega) (by omega)
                have hof : Fair (offF F A N O) := off_fair (by omega) (by omega)
                have hsetm : setS [⟨F, A, N⟩] ((F : Int) + (O : Int)) ((A : Int) + (N : Int) + 7) = layS (offF F A N O) 64 := by
                  rw [← hlr]
                  exact set_lay hrf (by omega) (by omega)
                have HBK := hide (show setS (layS (offF F A N O) 64) ((F : Int) + (O : Int)) ((A : Int) + (O : Int)) = [⟨F, A, N⟩] from
                  (set_lay hof (by omega) (by omega)).trans ((lay_congr 64 (fun k _ => off_back hO' k)).trans hlr))
                have hok := lay_ok hof 64 (Nat.le_refl _)
                have HML := hide (off_len (F := F) (a := A) hO' hN3 (by omega) (by omega))
                have HMC := hide (show (if rightS (layS (offF F A N O) 64) then cntS (layS (offF F A N O) 64) else 0) = (N : Int) by
                  rw [hok.right, if_pos rfl, hok.cnt, off_cnt hO', if_neg (by omega)]
                  split
                  · omega
                  · rfl)
                have HWF := hide (show ∀ r ∈ [(⟨F, A, N⟩ : Rn)], r.Wf from fun r hr => by
                  simp at hr
                  subst hr
                  exact ⟨wf_small (by dsimp only; omega), wf_small (by dsimp only; omega), wf_small (by dsimp only; omega)⟩)
                rw [hlay] at hro
                have HL4 := hide hro
                have HBZ := hide hbz
                have hg4 : g ≤ wr.heap.size := Nat.le_of_lt hgz.2
                clear hro hown hlay hrf hof hok hlr hbz hff hgz HALL
                go_wp2_with fail
                refine (Set_any wr _ [⟨F, A, N⟩] ((F : Int) + (O : Int)) ((A : Int) + (N : Int) + 7) HL4.out.row (wf_small (by omega)) (wf_small (by omega))).mono ?_
                rintro e w5 ⟨u5, rfl, ho5, hb5⟩
                rw [hsetm] at ho5
                have HL5 := hide (HL4.out.kept hb5)
                have HM5 := hide (ho5.mono hg4)
                have hB5 : Below g w w5 := HBZ.out.trans (hb5.mono hg4)
                have hg5 : g ≤ w5.heap.size := Nat.le_trans hg4 hb5.size
                clear ho5 hb5 hsetm HL4
                go_upto_region 21 with fail
                go_cut [122] (fun c wx => c = .bool (decide (O = 0 ∨ O + 1 = N)) ∧ wx = w5)
                case first =>
                  by_cases h1 : O = 0
                  · have h1' : ((O : Int) == 0) = true := by simp; omega
                    go_wp2
                    go_meet
                    exact ⟨congrArg Value.bool (decide_eq_true (p := O = 0 ∨ O + 1 = N) (.inl h1)).symm, rfl⟩
                  · have h1' : ((O : Int) == 0) = false := by simp; omega
                    by_cases h2 : O + 1 = N
                    · have h2' : ((O : Int) == (N : Int) - 1) = true := by simp; omega
                      go_wp2
                      go_meet
                      exact ⟨congrArg Value.bool (decide_eq_true (by omega)).symm, rfl⟩
                    · have h2' : ((O : Int) == (N : Int) - 1) = false := by simp; omega
                      go_wp2
                      go_meet
                      exact ⟨congrArg Value.bool (decide_eq_false (by omega)).symm, rfl⟩
                case rest =>
                  obtain ⟨hc1, rfl⟩ := hcut
                  by_cases hw : O = 0 ∨ O + 1 = N
                  · rw [if_pos hw] at HML
                    rw [decide_eq_true hw] at hc1
                    subst hc1
                    clear hw
                    go_wp2_with fail
                    refine (awake9_any _).mono ?_
                    rintro e w6 ⟨rfl, hb6⟩
                    have hB6 := Below.trans hB5 (hb6.mono hg5)
                    have HL6 := hide (HL5.out.kept hb6)
                    have HM6 := hide (HM5.out.kept hb6)
                    have hg6 : g ≤ w6.heap.size := Nat.le_trans hg5 hb6.size
                    have hA6 := kl_alloc w6 (.cells #[.int .i64 F, .int .i64 A, .int .i64 N] 39)
                    have HNW := hide (runs_new w6 [⟨F, A, N⟩] #[.int .i64 F, .int .i64 A, .int .i64 N] 39 1 rfl rfl (by simp) HWF.out)
                    have HL7 := hide (HL6.out.kept hA6)
                    have HM7 := hide (HM6.out.kept hA6)
                    have hB7 : Below g w (w6.alloc (.cells #[.int .i64 F, .int .i64 A, .int .i64 N] 39)) := hB6.alloc hg6 _
                    have hg7 : g ≤ (w6.alloc (.cells #[.int .i64 F, .int .i64 A, .int .i64 N] 39)).heap.size := by simp; omega
                    clear hb6 hA6 HL6 HM6 hB6
                    go_wp2_with fail
                    refine (PlainR_any _ _ _ [⟨F, A, N⟩] [⟨F, A, N⟩] HL7.out.row HNW.out).mono ?_
                    rintro e w8 ⟨rfl, hb8⟩
                    rw [decide_eq_true rfl]
                    have HL8 := hide (HL7.out.kept hb8)
                    have HM8 := hide (HM7.out.kept hb8)
                    have hB8 : Below g w w8 := hB7.trans (hb8.mono hg7)
                    have hg8 : g ≤ w8.heap.size := Nat.le_trans hg7 hb8.size
                    have hlm : ∀ (w' : World) (ty : TypeId), (Builtin.len_ #[23] ty #[u5]).run Try.prog w' = .ok (.int .i64 2) w' := fun w' ty => by
                      have := HM8.out.row.lenRun w' ty
                      rwa [HML.out] at this
                    clear hb8 hB7 HL7 HM7 HNW
                    go_wp2_with fail
                    refine (Set_any w8 _ (layS (offF F A N O) 64) ((F : Int) + (O : Int)) ((A : Int) + (O : Int)) HM8.out.row (wf_small (by omega)) (wf_small (by omega))).mono ?_
                    rintro e w9 ⟨u9, rfl, ho9, hb9⟩
                    rw [HBK.out] at ho9
                    have HS9 := hide ho9
                    have HL9 := hide (HL8.out.kept hb9)
                    have HM9 := hide (HM8.out.kept hb9)
                    have hB9 : Below g w w9 := hB8.trans (hb9.mono hg8)
                    have hg9 : g ≤ w9.heap.size := Nat.le_trans hg8 hb9.size
                    clear hb9 hB8 HL8 HM8 ho9 hlm
                    go_wp2_with fail
                    refine (PlainR_any _ _ _ [⟨F, A, N⟩] [⟨F, A, N⟩] HS9.out.row HL9.out.row).mono ?_
                    rintro e w10 ⟨rfl, hb10⟩
                    rw [decide_eq_true rfl]
                    have HM10 := hide (HM9.out.kept hb10)
                    have hB10 : Below g w w10 := hB9.trans (hb10.mono hg9)
                    have hg10 : g ≤ w10.heap.size := Nat.le_trans hg9 hb10.size
                    clear hb10 hB9 HL9 HM9 HS9
                    go_wp2_with fail
                    refine (Count_any _ _ _ HM10.out.row).mono ?_
                    rintro e w11 ⟨rfl, hb11⟩
                    rw [HMC.out]
                    have hB11 : Below g w w11 := hB10.trans (hb11.mono hg10)
                    clear hb11 hB10 HM10
                    go_wp2
                    go_ret
                    exact ⟨rfl, by rw [HG.out]; exact hB11⟩
                  · rw [if_neg hw] at HML
                    rw [decide_eq_false hw] at hc1
                    subst hc1
                    clear hw
                    go_wp2_with fail
                    refine (awake9_any _).mono ?_
                    rintro e w6 ⟨rfl, hb6⟩
                    have hB6 := Below.trans hB5 (hb6.mono hg5)
                    have HL6 := hide (HL5.out.kept hb6)
                    have HM6 := hide (HM5.out.kept hb6)
                    have hg6 : g ≤ w6.heap.size := Nat.le_trans hg5 hb6.size
                    have hA6 := kl_alloc w6 (.cells #[.int .i64 F, .int .i64 A, .int .i64 N] 39)
                    have HNW := hide (runs_new w6 [⟨F, A, N⟩] #[.int .i64 F, .int .i64 A, .int .i64 N] 39 1 rfl rfl (by simp) HWF.out)
                    have HL7 := hide (HL6.out.kept hA6)
                    have HM7 := hide (HM6.out.kept hA6)
                    have hB7 : Below g w (w6.alloc (.cells #[.int .i64 F, .int .i64 A, .int .i64 N] 39)) := hB6.alloc hg6 _
                    have hg7 : g ≤ (w6.alloc (.cells #[.int .i64 F, .int .i64 A, .int .i64 N] 39)).heap.size := by simp; omega
                    clear hb6 hA6 HL6 HM6 hB6
                    go_wp2_with fail
                    refine (PlainR_any _ _ _ [⟨F, A, N⟩] [⟨F, A, N⟩] HL7.out.row HNW.out).mono ?_
                    rintro e w8 ⟨rfl, hb8⟩
                    rw [decide_eq_true rfl]
                    have HL8 := hide (HL7.out.kept hb8)
                    have HM8 := hide (HM7.out.kept hb8)
                    have hB8 : Below g w w8 := hB7.trans (hb8.mono hg7)
                    have hg8 : g ≤ w8.heap.size := Nat.le_trans hg7 hb8.size
                    have hlm : ∀ (w' : World) (ty : TypeId), (Builtin.len_ #[23] ty #[u5]).run Try.prog w' = .ok (.int .i64 3) w' := fun w' ty => by
                      have := HM8.out.row.lenRun w' ty
                      rwa [HML.out] at this
                    clear hb8 hB7 HL7 HM7 HNW
                    go_wp2_with fail
                    refine (Set_any w8 _ (layS (offF F A N O) 64) ((F : Int) + (O : Int)) ((A : Int) + (O : Int)) HM8.out.row (wf_small (by omega)) (wf_small (by omega))).mono ?_
                    rintro e w9 ⟨u9, rfl, ho9, hb9⟩
                    rw [HBK.out] at ho9
                    have HS9 := hide ho9
                    have HL9 := hide (HL8.out.kept hb9)
                    have HM9 := hide (HM8.out.kept hb9)
                    have hB9 : Below g w w9 := hB8.trans (hb9.mono hg8)
                    have hg9 : g ≤ w9.heap.size := Nat.le_trans hg8 hb9.size
                    clear hb9 hB8 HL8 HM8 ho9 hlm
                    go_wp2_with fail
                    refine (PlainR_any _ _ _ [⟨F, A, N⟩] [⟨F, A, N⟩] HS9.out.row HL9.out.row).mono ?_
                    rintro e w10 ⟨rfl, hb10⟩
                    rw [decide_eq_true rfl]
                    have HM10 := hide (HM9.out.kept hb10)
                    have hB10 : Below g w w10 := hB9.trans (hb10.mono hg9)
                    have hg10 : g ≤ w10.heap.size := Nat.le_trans hg9 hb10.size
                    clear hb10 hB9 HL9 HM9 HS9
                    go_wp2_with fail
                    refine (Count_any _ _ _ HM10.out.row).mono ?_
                    rintro e w11 ⟨rfl, hb11⟩
                    rw [HMC.out]
                    have hB11 : Below g w w11 := hB10.trans (hb11.mono hg10)
                    clear hb11 hB10 HM10
                    go_wp2
                    go_ret
                    exact ⟨rfl, by rw [HG.out]; exact hB11⟩
end Go.Proofs.Ytdjpnoolbpnpiaa
