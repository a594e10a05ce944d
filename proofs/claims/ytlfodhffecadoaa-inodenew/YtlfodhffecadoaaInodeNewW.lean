/-
  InodeNew: its walk.
-/
import Derived.Test.YtlfodhffecadoaaAwake12
namespace Go.Proofs.Ytlfodhffecadoaa
open Go.RowKit
set_option linter.unusedVariables false
set_option maxRecDepth 100000

def okN (no kind : Int) (t : ByteArray) : Bool := decide (1 ≤ no) && (kind == 1 || (kind == 2 || (kind == 3 && rightT (bl t))))
theorem new_right (no kind : Int) (t : ByteArray) : rightI (newI no kind t) = okN no kind t := by
  have e : decide (0 < no) = decide (1 ≤ no) := decide_eq_decide.2 ⟨fun h => by omega, fun h => by omega⟩
  unfold okN rightI rightKind newI
  dsimp only
  rw [e]
  by_cases h1 : kind = 1
  · subst h1
    simp [rightFile, rightS, chainS, show bl ByteArray.empty = [] from rfl]
  · by_cases h2 : kind = 2
    · subst h2
      simp [rightDir, show rightE [] = true from rfl, show bl ByteArray.empty = [] from rfl]
    · by_cases h3 : kind = 3
      · subst h3
        simp [rightLink, bl_length]
      · simp [h1, h2, h3]
def wantN (kind : Int) (t : ByteArray) : Int := if kind = 3 then (t.size : Int) else 0
theorem new_size (no kind : Int) (t : ByteArray) : statSize (newI no kind t) = wantN kind t := by
  unfold statSize newI wantN
  by_cases h2 : kind = 2
  · subst h2; simp
  · simp [h2]
theorem new_pages (no kind : Int) (t : ByteArray) : pagesOf (newI no kind t) = 0 := rfl
theorem new_text (no kind : Int) (t : ByteArray) (h : t.size ≤ maxLen) : (newI no kind t).t.size ≤ maxLen := by
  unfold newI
  dsimp only
  split
  · exact h
  · unfold maxLen; decide
theorem five {W : World} {B : Nat} {a b c d n : Value} {T : TypeId} (h : Blk W B #[a, b, c, d, n] T) :
    W.cell? ⟨B, 0, none⟩ = some a ∧ W.cell? ⟨B, 1, none⟩ = some b ∧ W.cell? ⟨B, 2, none⟩ = some c ∧ W.cell? ⟨B, 3, none⟩ = some d ∧ W.cell? ⟨B, 4, none⟩ = some n :=
  ⟨h.cell 0, h.cell 1, h.cell 2, h.cell 3, h.cell 4⟩

set_option maxHeartbeats 4000000 in
theorem InodeNew_walk (a0 a1 : Int) (a2 : ByteArray) (w : World) (w0 : (Lit.int .i64 a0).wf = true) (w1 : (Lit.int .i64 a1).wf = true) (w2 : a2.size ≤ maxLen) :
    Calls Try.prog 4 #[.int .i64 a0, .int .i64 a1, .string a2] w fun e w' => e = .returned (.bool true) ∧ Below w.heap.size w w' := by
  have HS := hide w2
  have HK := hide w1
  have hm : (a2.size : Int) ≤ 9223372036854775807 := by unfold maxLen at w2; omega
  clear w0 w1 w2
  by_cases hbig : (a2.size : Int) > 500
  · go_enter Try.func4, Try.ntmps4
    go_wp2_with fail
    refine (awake_any w).mono ?_
    rintro e w3 ⟨rfl, hb3⟩
    go_wp2
    go_ret
    exact ⟨rfl, hb3⟩
  · have hbig' : (a2.size : Int) ≤ 500 := by omega
    clear hbig
    have HN := hide (New_any w a0 a1 a2 HK.out HS.out)
    have HSZ := hide (new_size a0 a1 a2)
    have HPG := hide (new_pages a0 a1 a2)
    have HRT := hide (new_right a0 a1 a2)
    have HTX := hide (new_text a0 a1 a2 HS.out)
    unfold SaysI at HN
    have hno : (newI a0 a1 a2).no = a0 := rfl
    have hkd : (newI a0 a1 a2).kind = a1 := rfl
    have hes : (newI a0 a1 a2).es = [] := rfl
    have hrs : (newI a0 a1 a2).rs = [] := rfl
    generalize newI a0 a1 a2 = x at *
    obtain ⟨no, kind, L, S, T, es, rs⟩ := x
    dsimp only at hno hkd hes hrs HN HTX
    subst hno hkd hes hrs
    go_enter Try.func4, Try.ntmps4
    go_wp2_with fail
    refine HN.out.mono ?_
    rintro e w3 ⟨rfl, hb3⟩
    go_upto_region 4 with fail
    have hX := Blk.new w3 #[.int .i64 no, .int .i64 kind, .int .i64 L, .int .i64 S, .string T, .slice none 0 0, .slice none 0 0] 25
    have HB := hide (kl_step (kl_alloc w3 (.cells #[.int .i64 no, .int .i64 kind, .int .i64 L, .int .i64 S, .string T, .slice none 0 0, .slice none 0 0] 25)) hb3)
    generalize w3.alloc (.cells #[.int .i64 no, .int .i64 kind, .int .i64 L, .int .i64 S, .string T, .slice none 0 0, .slice none 0 0] 25) = W at *
    generalize w3.heap.size = B at *
    have HX := hide hX
    clear hX hb3 HN
    have HOK : Hid (okN no kind a2 = (decide (1 ≤ no) && (kind == 1 || (kind == 2 || (kind == 3 && rightT (bl a2)))))) := hide rfl
    go_cut [8] (fun s wx => s = .bool (okN no kind a2) ∧ wx = W)
    case first =>
      by_cases n1 : 1 ≤ no
      · by_cases k1 : kind = 1
        · have k1' : (kind == 1) = true := by simpa using k1
          have HF := hide (HOK.out.trans (by rw [decide_eq_true n1, k1']))
          clear k1
          go_wp2
          go_meet
          exact ⟨congrArg Value.bool HF.out.symm, rfl⟩
        · have k1' : (kind == 1) = false := by simpa using k1
          by_cases k2 : kind = 2
          · have k2' : (kind == 2) = true := by simpa using k2
            have HF := hide (HOK.out.trans (by rw [decide_eq_true n1, k1', k2']))
            clear k1 k2
            go_wp2
            go_meet
            exact ⟨congrArg Value.bool HF.out.symm, rfl⟩
          · have k2' : (kind == 2) = false := by simpa using k2
            by_cases k3 : kind = 3
            · have k3' : (kind == 3) = true := by simpa using k3
              have HF := hide (HOK.out.trans (by rw [decide_eq_true n1, k1', k2', k3', Bool.true_and, Bool.true_and, Bool.false_or, Bool.false_or]))
              clear k1 k2 k3
              go_wp2_with fail
              refine (RTarget_any W a2 HS.out).mono ?_
              rintro e w5 ⟨rfl, rfl⟩
              go_wp2
              go_meet
              exact ⟨congrArg Value.bool HF.out.symm, rfl⟩
            · have k3' : (kind == 3) = false := by simpa using k3
              have HF := hide (HOK.out.trans (by rw [decide_eq_true n1, k1', k2', k3']))
              clear k1 k2 k3
              go_wp2
              go_meet
              exact ⟨congrArg Value.bool HF.out.symm, rfl⟩
      · have n1' : no < 1 := by omega
        have HF := hide (HOK.out.trans (by rw [decide_eq_false n1]))
        clear n1
        go_wp2
        go_meet
        exact ⟨congrArg Value.bool HF.out.symm, rfl⟩
    case rest =>
      obtain ⟨rfl, rfl⟩ := hcut
      obtain ⟨c0, c1, c2, c3, c4, c5, c6⟩ := seven HX.out
      have hst := Stat_any wc no kind L S T (.slice none 0 0) (.slice none 0 0) [] [] (ERow.nil wc) (RRow.nil wc)
      rw [HSZ.out, HPG.out] at hst
      have HWN : Hid (wantN kind a2 = if kind = 3 then (a2.size : Int) else 0) := hide rfl
      generalize wantN kind a2 = wn at *
      generalize okN no kind a2 = ok at *
      go_wp2_with fail
      refine hst.mono ?_
      rintro e w5 ⟨rfl, hb5⟩
      have HX5 := hide (kl_blk hb5 HX.out)
      have HB5 := hide (kl_step hb5 HB.out)
      clear hst hb5 c0 c1 c2 c3 c4 c5 c6 HX HB HSZ
      go_upto_region 6 with fail
      have hY := Blk.new w5 #[.int .i64 no, .int .i64 kind, .int .i64 L, .int .i64 wn, .int .i64 0] 31
      have HX6 := hide (kl_blk (kl_alloc w5 (.cells #[.int .i64 no, .int .i64 kind, .int .i64 L, .int .i64 wn, .int .i64 0] 31)) HX5.out)
      have HB6 := hide (kl_step (kl_alloc w5 (.cells #[.int .i64 no, .int .i64 kind, .int .i64 L, .int .i64 wn, .int .i64 0] 31)) HB5.out)
      generalize w5.alloc (.cells #[.int .i64 no, .int .i64 kind, .int .i64 L, .int .i64 wn, .int .i64 0] 31) = V at *
      generalize w5.heap.size = R at *
      have HY := hide hY
      clear hY HX5 HB5
      go_upto_if 40 with fail
      go_cut [10] (fun s wx => s = .int .i64 wn ∧ wx = V)
      case first =>
        by_cases k3 : kind = 3
        · have k3' : (kind == 3) = true := by simpa using k3
          have HF := hide (HWN.out.trans (if_pos k3))
          clear k3
          go_wp2
          go_meet
          exact ⟨by rw [HF.out], rfl⟩
        · have k3' : (kind == 3) = false := by simpa using k3
          have HF := hide (HWN.out.trans (if_neg k3))
          clear k3
          go_wp2
          go_meet
          exact ⟨by rw [HF.out], rfl⟩
      case rest =>
        obtain ⟨rfl, rfl⟩ := hcut
        go_wp2_with fail
        refine (awake_any _).mono ?_
        rintro e w7 ⟨rfl, hb7⟩
        have HX7 := hide (kl_blk hb7 HX6.out)
        have HY7 := hide (kl_blk hb7 HY.out)
        have HB7 := hide (kl_step hb7 HB6.out)
        obtain ⟨c0, c1, c2, c3, c4, c5, c6⟩ := seven HX7.out
        clear hb7 HX6 HY HB6
        have hri := RightI_any w7 no kind L S T (.slice none 0 0) (.slice none 0 0) [] [] HK.out HTX.out (ERow.nil w7) (RRow.nil w7)
        rw [HRT.out] at hri
        go_wp2_with fail
        refine hri.mono ?_
        rintro e w8 ⟨rfl, hb8⟩
        have HY8 := hide (kl_blk hb8 HY7.out)
        have HB8 := hide (kl_step hb8 HB7.out)
        obtain ⟨y0, y1, y2, y3, y4⟩ := five HY8.out
        clear hb8 hri c0 c1 c2 c3 c4 c5 c6 HX7 HY7 HB7 HRT
        go_wp2
        go_ret
        exact ⟨rfl, HB8.out⟩
end Go.Proofs.Ytlfodhffecadoaa
