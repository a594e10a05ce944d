/-
  The document's own chip of pages: page, Load.
-/
import Derived.Test.YthlkilgfphbfcaaRNandB
namespace Go.Proofs.Ythlkilgfphbfcaa
open Go.RowKit
set_option linter.unusedVariables false
set_option maxRecDepth 100000

theorem RChip.gcell {w : World} {M : RLy} {N : DSt} (h : RChip w M N) : w.cell? ⟨M.c, 2, none⟩ = some (.int .i64 N.C) ∧ w.cell? ⟨M.c, 3, none⟩ = some (.int .i64 N.D) ∧ w.cell? ⟨M.c, 4, none⟩ = some (.int .i64 N.E) :=
  ⟨(h.blk.cell 2).trans rfl, (h.blk.cell 3).trans rfl, (h.blk.cell 4).trans rfl⟩
theorem RChip.ncell {w : World} {M : RLy} {N : DSt} (h : RChip w M N) : w.cell? ⟨M.c, 7, none⟩ = some (.slice (some ⟨M.nb, 0, none⟩) N.C N.C) := (h.blk.cell 7).trans rfl
theorem RChip.bcell {w : World} {M : RLy} {N : DSt} (h : RChip w M N) : w.cell? ⟨M.c, 6, none⟩ = some (.slice (some ⟨M.bb, 0, none⟩) N.bs.length M.bc) := (h.blk.cell 6).trans rfl
theorem RChip.nextAt {w : World} {M : RLy} {N : DSt} (h : RChip w M N) {j : Nat} (hj : j < N.nx.length) : w.cell? ⟨M.nb, j, none⟩ = some (.int .i64 (N.nx.getD j 0)) := by
  rw [h.nxt.cell j, List.getElem?_toArray, iv_at hj]
theorem RChip.setNext {w : World} {M : RLy} {N : DSt} (h : RChip w M N) (i : Nat) (y : Int) : RChip (w.setCell ⟨M.nb, i, none⟩ (.int .i64 y)) M { N with nx := N.nx.set i y } := by
  have hO : Only [M.nb] w (w.setCell ⟨M.nb, i, none⟩ (.int .i64 y)) := only_setCell _ _ _ _ _ (by simp)
  obtain ⟨⟨n1, n2, n3, n4, n5, n6⟩, _⟩ := h.ne
  exact ⟨h.blk.only hO (by simp; omega), h.byt.only hO (fun k e => by cases e; simp; omega), h.nxt.setI5 i y, h.ers.only hO (by simp; omega), h.ne⟩

/-- Where a page begins. -/
def pageD (N : DSt) (b p : Int) : Int := if isP N b p then (b * N.D + p) * (N.E + 16) else -1
set_option maxHeartbeats 2000000 in
theorem Rpage_at (w : World) (M : RLy) (N : DSt) (n : Nat) (h : RChip w M N) (ok : N.Ok n) (i k : Nat) (hi : i < N.C) (hk : k < N.D) :
    Calls Try.prog 47 #[.pointer (some ⟨M.c, 0, none⟩), .int .i64 i, .int .i64 k] w fun e w' => e = .returned (.int .i64 (((i * N.D + k) * (N.E + 16) : Nat) : Int)) ∧ Only [] w w' := by
  obtain ⟨c2, c3, c4⟩ := h.gcell
  have hC := ok.C1
  have hD := ok.D1
  have hE := ok.E1
  have hq := q_lt hi hk
  have hqm : N.C * N.D ≤ 2048 := Nat.mul_le_mul hC hD
  have hP : (i * N.D + k) * (N.E + 16) ≤ 2048 * 272 := Nat.mul_le_mul (by omega) (by omega)
  have e1 : ((i : Int) * (N.D : Int)) = ((i * N.D : Nat) : Int) := by simp
  have e2 : (((i * N.D : Nat) : Int) + (k : Int)) * ((N.E : Int) + 16) = (((i * N.D + k) * (N.E + 16) : Nat) : Int) := by simp
  have hi' : (i : Int) < N.C := by omega
  have hk' : (k : Int) < N.D := by omega
  generalize (i * N.D + k) * (N.E + 16) = P at *
  generalize i * N.D = R at *
  have hR : (R : Int) + k < 2048 := by omega
  have hP' : (P : Int) ≤ 557056 := by omega
  clear hq hqm hP
  go_enter Try.func47, Try.ntmps47
  go_wp2_with fail
  go_region
  all_goals
    go_wp2
    go_ret
    exact ⟨rfl, only_grown (grown_drew _ none) (by simp)⟩

set_option maxHeartbeats 4000000 in
theorem RLoad5_any (w : World) (M : RLy) (N : DSt) (n : Nat) (h : RChip w M N) (ok : N.Ok n) (v : Value) (X : List Int) (hr : Row w v X) (hX : X.length = N.C * N.D * (N.E + 16)) (hv : ∀ b off n cap, v = .slice (some ⟨b, off, none⟩) n cap → b ≠ M.c ∧ b ≠ M.nb) (hpb : M.pb < w.heap.size) :
    Calls Try.prog 36 #[.pointer (some ⟨M.c, 0, none⟩), v] w fun e w' => e = .returned (.int .i64 0) ∧ ∃ bb bc, w.heap.size ≤ bb ∧ RChip w' { M with bb := bb, bc := bc } (N.load X) ∧ Only [M.c, M.nb] w w' := by
  have hlen := hr.lenRun
  have hC := ok.C1
  have hD := ok.D1
  have hE := ok.E1
  have hC0 := ok.C0
  have hbig := ok.big
  have hbl := ok.len
  obtain ⟨c2, c3, c4⟩ := h.gcell
  have c6 := h.bcell
  have f6 := h.blk.frozen 6
  have HXL := hide hX
  have HBX := hide (show Bys X from hr.bys)
  obtain ⟨T, hT⟩ : ∃ T, N.C * N.D * (N.E + 16) = T := ⟨_, rfl⟩
  rw [hX, hT] at hlen
  rw [hbl, hT] at c6
  rw [hT] at hbig
  have HT := hide hT
  have HR := hide hr
  have HM := hide h
  have hcl := h.blk.lt
  obtain ⟨⟨n1, n2, n3, n4, n5, n6⟩, n7, n8, n9, n10⟩ := h.ne
  have l1 := h.nxt.lt
  have l2 := h.ers.lt
  have hT0 : 0 < T := by rw [← hT]; exact Nat.mul_pos (Nat.mul_pos (by omega) (by have := ok.D0; omega)) (by omega)
  clear hX hr h hT hbl
  go_enter Try.func36, Try.ntmps36
  go_wp2_with (at_builtin; refine wpList_append_row rfl _ _ rfl w.heap.size _ _ [] X rfl (Own.nil _ _) rfl HR.out (by rw [HXL.out, HT.out]; simp only [List.length_nil]; omega) (Nat.le_refl _) ?_)
  intro v1 w1 ho1 hg1
  have hb1 : Below w.heap.size w w1 := grown_below hg1
  try rw [List.nil_append] at ho1
  obtain ⟨g, gc, rfl, hg0, hgl, hgc⟩ := ho1.form (by rw [HXL.out, HT.out]; exact hT0)
  have hM1 := HM.out.below hb1
  have d6 := hM1.bcell
  have e6 := hM1.blk.frozen 6
  obtain ⟨d2, d3, d4⟩ := hM1.gcell
  have hO1 : Only [] w w1 := only_below hb1
  have hO2 : Only [M.c] w1 (w1.setCell ⟨M.c, 6, none⟩ (.slice (some ⟨g, 0, none⟩) X.length gc)) := only_setCell _ _ _ _ _ (by simp)
  have hI0 : RChip (w1.setCell ⟨M.c, 6, none⟩ (.slice (some ⟨g, 0, none⟩) X.length gc)) { M with bb := g, bc := gc } { N with bs := X, nx := nxB N X 0 } := by
    refine ⟨?_, (ho1.mono (Nat.zero_le _)).only hO2 (fun k e => by cases e; simp; omega), ?_, hM1.ers.only hO2 (by simp; omega), by simp only; omega⟩
    · exact hM1.blk.set 6 (.slice (some ⟨g, 0, none⟩) X.length gc)
    · show Blk _ M.nb (iv .i64 (nxB N X 0)).toArray 3
      rw [nxB_zero ok]
      exact hM1.nxt.only hO2 (by simp; omega)
  have hOn : Only [M.c, M.nb] w (w1.setCell ⟨M.c, 6, none⟩ (.slice (some ⟨g, 0, none⟩) X.length gc)) := ((hO1.wide (by simp) : Only [M.c, M.nb] w w1)).trans (hO2.wide (by simp))
  have HI0 := hide hI0
  have HON := hide hOn
  clear hI0 hOn hO1 hO2 hM1 hg1 ho1
  go_wp2_with fail
  generalize w1.setCell ⟨M.c, 6, none⟩ (.slice (some ⟨g, 0, none⟩) X.length gc) = W0 at *
  clear d2 d3 d4 d6 e6 c2 c3 c4 c6 f6 hb1
  go_loopw [6] (fun s wr => ∃ i : Nat, i ≤ N.C ∧ s = .int .i64 i ∧ RChip wr { M with bb := g, bc := gc } { N with bs := X, nx := nxB N X i } ∧ Only [M.c, M.nb] w wr) (fun s _ => N.C - (intOf s).toNat)
  case atStart => exact ⟨0, Nat.zero_le _, rfl, HI0.out, HON.out⟩
  case round =>
    obtain ⟨i, hi, rfl, hI, hO⟩ := hrel
    clear HI0 HON
    obtain ⟨d2, d3, d4⟩ := hI.gcell
    have d7 := hI.ncell
    by_cases hlt2 : i < N.C
    · have hlt2' : (i : Int) < N.C := by omega
      have dn := hI.nextAt (j := i) (by show i < (nxB N X i).length; rw [nxB_length]; exact hlt2)
      have df := hI.nxt.frozen i
      have hI1 := hI.setNext i 0
      have hI2 : RChip (wr.setCell ⟨M.nb, i, none⟩ (.int .i64 0)) { M with bb := g, bc := gc } { N with bs := X, nx := nxL N X i 0 } := by
        rw [← nxB_set N X hlt2]
        exact hI1
      have hO1 : Only [M.c, M.nb] w (wr.setCell ⟨M.nb, i, none⟩ (.int .i64 0)) := hO.trans (only_setCell _ _ _ _ _ (by simp))
      simp only at d2 d3 d4 d7 dn df
      generalize (nxB N X i).getD i 0 = y at *
      have HI2 := hide hI2
      clear hI hI1 hI2 hO
      go_wp2_with fail
      generalize wr.setCell ⟨M.nb, i, none⟩ (.int .i64 0) = W1 at *
      go_loopw [7] (fun s wr => ∃ k : Nat, k ≤ N.D ∧ s = .int .i64 k ∧ RChip wr { M with bb := g, bc := gc } { N with bs := X, nx := nxL N X i k } ∧ Only [M.c, M.nb] w wr) (fun s _ => N.D - (intOf s).toNat)
      case atStart => exact ⟨0, Nat.zero_le _, rfl, HI2.out, hO1⟩
      case round =>
        obtain ⟨k, hk, rfl, hI, hO⟩ := hrel
        clear HI2 hO1 d2 d3 d4 d7 dn df
        obtain ⟨d2, d3, d4⟩ := hI.gcell
        simp only at d2 d3 d4
        by_cases hlt3 : k < N.D
        · have hlt3' : (k : Int) < N.D := by omega
          have hq := q_lt hlt2 hlt3
          have hap : (i * N.D + k) * (N.E + 16) + (N.E + 16) ≤ X.length := by rw [HXL.out]; exact q_apart hq
          have okX : DSt.Ok { N with bs := X, nx := nxL N X i k } n := by
            refine ⟨ok.1, ok.2, ok.3, ok.4, ok.5, ok.6, HXL.out, nxL_length _ _ _ _, ok.9, HBX.out, ?_, ok.12⟩
            intro x hx
            simp [nxL] at hx
            obtain ⟨j, hj, rfl⟩ := hx
            split
            · exact nxA_range _ _ _ _ _
            · split
              · have := nxA_range X N.D (N.E + 16) i k; show _ ∧ _ ≤ (N.D : Int); omega
              · exact ok.nxAt hj
          have hpg := Rpage_at wr _ _ n hI okX i k hlt2 hlt3
          simp only at hpg
          obtain ⟨bl, off, off0, cap, nn, cap0, hve, hsl, hrp⟩ := (HR.out.only hO (fun b off n cap e => by have := hv b off n cap e; simp; omega)).page ((i * N.D + k) * (N.E + 16)) (N.E + 16) (by omega) hap
          have e3 : (((i * N.D + k) * (N.E + 16) : Nat) : Int) + ((N.E : Int) + 16) = (((i * N.D + k) * (N.E + 16) + (N.E + 16) : Nat) : Int) := by simp
          rw [← e3] at hsl
          have hl2 : (i * N.D + k) * (N.E + 16) ≤ 557056 := by rw [HXL.out, HT.out] at hap; omega
          have HPG := hide hpg
          have HRP := hide hrp
          have HFF := hide (show ff (pgs X ((i * N.D + k) * (N.E + 16)) (N.E + 16)) = ff ((X.drop ((i * N.D + k) * (N.E + 16))).take (N.E + 16)) from rfl)
          have hL := fun h => nxL_yes N X (k := k) hlt2 h
          have hLn := fun h => nxL_no N X (i := i) (k := k) h
          have HL := hide hL
          have HLn := hide hLn
          have HI := hide hI
          obtain ⟨P, hP⟩ : ∃ P, (i * N.D + k) * (N.E + 16) = P := ⟨_, rfl⟩
          rw [hP] at HPG HRP hsl hl2 HL HLn
          have hl2' : (P : Int) ≤ 557056 := by omega
          clear hpg hrp hve e3 hL hLn hP HFF hap hq okX hI
          go_wp2_with fail
          refine Calls.mono HPG.out ?_
          rintro e w5 ⟨rfl, hO5⟩
          have hI5 := HI.out.only hO5 (by simp)
          have hO6 : Only [M.c, M.nb] w w5 := hO.past hO5 (by simp)
          have HR5 := hide (HRP.out.only hO5 (by simp))
          have HI5 := hide hI5
          have d7 := hI5.ncell
          have dn := hI5.nextAt (j := i) (by show i < (nxL N X i k).length; rw [nxL_length]; exact hlt2)
          have df := hI5.nxt.frozen i
          simp only at d7 dn df
          generalize (nxL N X i k).getD i 0 = y at *
          clear hI5
          go_wp2_with fail
          refine (Rerased5_any w5 _ _ HR5.out).mono ?_
          rintro e w6 ⟨rfl, rfl⟩
          by_cases hff : ff ((X.drop P).take (N.E + 16)) = true
          · have HI6 := hide (show RChip w6 { M with bb := g, bc := gc } { N with bs := X, nx := nxL N X i (k + 1) } by rw [← HLn.out hff]; exact HI5.out)
            rw [hff]
            go_wp2
            go_roundw
            case rel => exact ⟨k + 1, by omega, by go_num, HI6.out, hO6⟩
            case measure => simp [intOf]; omega
          · have hff' : ff ((X.drop P).take (N.E + 16)) = false := by simpa using hff
            have HI6 := hide (show RChip (w6.setCell ⟨M.nb, i, none⟩ (.int .i64 ((k : Int) + 1))) { M with bb := g, bc := gc } { N with bs := X, nx := nxL N X i (k + 1) } by rw [← HL.out hff']; exact HI5.out.setNext i _)
            have hO7 : Only [M.c, M.nb] w (w6.setCell ⟨M.nb, i, none⟩ (.int .i64 ((k : Int) + 1))) := hO6.trans (only_setCell _ _ _ _ _ (by simp))
            rw [hff']
            go_wp2
            go_roundw
            case rel => exact ⟨k + 1, by omega, by go_num, HI6.out, hO7⟩
            case measure => simp [intOf]; omega
        · obtain rfl : k = N.D := by omega
          rw [nxL_end] at hI
          have HI3 := hide hI
          clear hI
          go_wp2
          go_roundw
          case rel => exact ⟨i + 1, by omega, by go_num, HI3.out, hO⟩
          case measure => simp [intOf]; omega
    · obtain rfl : i = N.C := by omega
      have hfin : RChip wr { M with bb := g, bc := gc } (N.load X) := by
        have e : { N with bs := X, nx := nxB N X N.C } = N.load X := by
          rw [nxB_end]
          rfl
        rw [← e]
        exact hI
      have HF := hide hfin
      clear hI hfin
      simp only at d2
      go_wp2
      go_ret
      first
        | exact ⟨rfl, g, gc, hg0, HF.out, hO⟩
        | exact ⟨rfl, g, hg0, ⟨gc, HF.out⟩, hO⟩
end Go.Proofs.Ythlkilgfphbfcaa
