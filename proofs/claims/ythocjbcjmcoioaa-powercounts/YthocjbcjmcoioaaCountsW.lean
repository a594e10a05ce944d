/-
  The walk of garretlaw03.PowerCounts.
-/
import Derived.Test.YthocjbcjmcoioaaAwake03
import Derived.OpenShut
namespace Go.Proofs.Ythocjbcjmcoioaa
open Go.RowKit
set_option linter.unusedVariables false

theorem failed_at (mask : Int) (i : Nat) (l : List Int) : PSt.failed ⟨false, false, 0, mask, (i : Int) + 1, l⟩ = l.contains (i : Int) := by
  have : ((i : Int) + 1 == 0) = false := by simp; omega
  simp [PSt.failed, this]

theorem step_plain (mask : Int) (k : Nat) (l : List Int) : PSt.step ⟨false, false, 0, mask, k, l⟩ = (true, false, ⟨false, false, 0, mask, (k : Int) + 1, l⟩) := rfl

theorem contains_step {l : List Int} {q : Nat} (i : Int) (h : q < l.length) : (l.take (q + 1)).contains i = ((l.take q).contains i || decide (l.getD q 0 = i)) := by
  rw [take_snoc h]
  simp [eq_comm]

set_option maxHeartbeats 2000000 in
theorem PowerCounts_walk (lv : Value) (l : List Int) (n0 : Int) (cv : Value) (cuts : List Int) (w : World) (w0 : IRow .i64 w lv l) (w1 : (Lit.int .i64 n0).wf = true) (w2 : IRow .i64 w cv cuts) :
    Calls Try.prog 5 #[lv, .int .i64 n0, cv] w fun e w' => e = .returned (.bool true) ∧ Below w.heap.size w w' := by
  have hlm := w0.len
  have hcm := w2.len
  unfold maxLen at hlm hcm
  obtain ⟨lo, lcap, hlv⟩ := w0.of_len
  obtain ⟨co, ccap, hcv⟩ := w2.of_len
  by_cases hbig : (30 : Int) < l.length
  · subst hlv hcv
    clear w0 w2
    generalize l.length = a at *
    generalize cuts.length = c at *
    go_enter Try.func5, Try.ntmps5
    go_wp2_with fail
    refine (awake_any _).mono ?_
    rintro e w5 ⟨rfl, hb5⟩
    go_wp2
    go_ret
    exact ⟨rfl, hb5⟩
  · obtain ⟨n, hn, hcn⟩ := cut_n n0 100 (by omega) (by omega)
    rw [show ((100 : Nat) : Int) = 100 from rfl] at hcn
    subst hlv hcv
    generalize hll : l.length = a at *
    generalize hcl : cuts.length = c at *
    go_enter Try.func5, Try.ntmps5
    go_wp2_with fail
    refine (New_any _).mono ?_
    rintro e w3 ⟨rfl, hw3⟩
    have hP := Pow.new w (w.heap.size + 1) (by omega)
    rw [← hw3] at hP
    have hb1 : Below w.heap.size w w3 := hw3 ▸ (Below.refl _ _).alloc (Nat.le_refl _) _
    clear hw3
    generalize hbn : w.heap.size = b at *
    have hs1 := hb1.size
    have hlt1 : b < w3.heap.size := by obtain ⟨_, h, _⟩ := hP; exact h.lt
    go_wp2_with fail
    refine (awake_any _).mono ?_
    rintro e w4 ⟨rfl, hb4⟩
    have hP4 := hP.kept (below_grown hb4 none) (by simp)
    have hB4 : Below b w w4 := hb1.trans (hb4.mono (by omega))
    have hlt4 : b + 1 ≤ w4.heap.size := by have := hb4.size; omega
    clear hb4 hb1 hP
    go_wp2_with fail
    refine (Fails_any _ _ _ _ 0 hP4 (PSt.zero_ok 0) (by omega)).mono ?_
    rintro e w5 ⟨rfl, hg5⟩
    rw [show PSt.zero.failed = false from rfl]
    have hP5 := hP4.kept hg5 (by simp)
    have hB5 : Below b w w5 := hB4.grown hg5 (by omega) (by simp)
    have hlt5 : b + 1 ≤ w5.heap.size := by have := hg5.size; omega
    clear hP4 hB4 hlt4 hg5
    go_wp2_with fail
    refine (Fail_any _ _ _ _ _ l hP5 hlt5 (by rw [← hbn] at hB5; exact w0.below hB5) (by omega)).mono ?_
    rintro e w6 ⟨rfl, hP6, hg6⟩
    have hP6' : Pow (b + 1) w6 b ⟨false, false, 0, 0, (0 : Nat), l⟩ := hP6
    have hB6 : Below b w w6 := hB5.grown hg6 (by omega) (by simp)
    clear hP5 hB5 hlt5 hg6 hP6
    go_wp2
    go_loopw [8] (fun i wr => ∃ k : Nat, k ≤ n ∧ i = .int .i64 k ∧ ∃ mask : Int, (0 ≤ mask ∧ mask < 256) ∧ Pow (b + 1) wr b ⟨false, false, 0, mask, k, l⟩ ∧ Below b w wr) (fun i _ => n - (intOf i).toNat)
    case atStart => exact ⟨0, Nat.zero_le _, rfl, 0, by omega, hP6', hB6⟩
    case round =>
      obtain ⟨k, hk, rfl, mask, hmask, hPk, hBk⟩ := hrel
      have hsk := hBk.size
      clear hP6' hB6
      by_cases hlt : k < n
      · by_cases hkc : (k : Int) < c
        case' neg =>
          have hPd := hPk
          have hBd := hBk
          have hsd := hsk
          have hmask' := hmask
          clear hPk hBk hmask
        case' pos =>
          obtain ⟨cb, coff, ccap', hcv, hcb, hcc⟩ := w2.at (by omega)
          have hck : wr.cell? ⟨cb, coff + k, none⟩ = some (.int .i64 (cuts.getD k 0)) := (hBk.cell (p := ⟨cb, coff + k, none⟩) (by simp; omega)).trans (hcc k (by omega))
          generalize cuts.getD k 0 = x at hck
          rw [hcl] at hcv
          obtain ⟨rfl, rfl⟩ : co = some ⟨cb, coff, none⟩ ∧ ccap = ccap' := by simpa using hcv
          by_cases hx : x.tmod 3 = 0
          case' pos =>
            go_wp2_with fail
            refine (Cut_any _ _ _ _ 0 1 hPk).mono ?_
            rintro e wa ⟨rfl, hPa, hga⟩
            rw [show PSt.cut ⟨false, false, 0, mask, k, l⟩ 0 1 = ⟨false, true, 0, 1, k, l⟩ from rfl] at hPa
            have hBa : Below b w wa := hBk.grown hga (by omega) (by simp)
            have hsa := hBa.size
            clear hPk hBk hga
            go_wp2_with fail
            refine (Step_any _ _ _ _ 100 hPa ⟨by simp, by simp; omega, by simp, wf_i64 (by simp) (by simp), by simp⟩ (by omega)).mono ?_
            rintro e wc ⟨rfl, hPc, hgc⟩
            rw [show PSt.step ⟨false, true, 0, 1, k, l⟩ = (false, true, ⟨true, true, 0, 1, k, l⟩) from rfl] at *
            have hBc : Below b w wc := hBa.grown hgc (by omega) (by simp)
            have hsc := hBc.size
            clear hPa hBa hgc
            go_wp2_with fail
            refine (On_any _ _ _ _ hPc).mono ?_
            rintro e wd ⟨rfl, hPd, hgd⟩
            rw [show PSt.on ⟨true, true, 0, 1, k, l⟩ = ⟨false, false, 0, 1, k, l⟩ from rfl] at hPd
            have hBd : Below b w wd := hBc.grown hgd (by omega) (by simp)
            have hsd := hBd.size
            have hmask' : 0 ≤ (1 : Int) ∧ (1 : Int) < 256 := by omega
            clear hPc hBc hgd
          case' neg =>
            have hx' : (x.tmod 3 == 0) = false := by simpa using hx
            have hPd := hPk
            have hBd := hBk
            have hsd := hsk
            have hmask' := hmask
            clear hPk hBk hmask
        all_goals
          go_wp2_with fail
          refine (Step_any _ _ _ _ 100 hPd ⟨by simp, by simp; omega, by simp, wf_i64 (by simp) (by simp), hmask'⟩ (by omega)).mono ?_
          rintro e w7 ⟨rfl, hP7, hg7⟩
          rw [step_plain] at *
          have hB7 : Below b w w7 := hBd.grown hg7 (by omega) (by simp)
          have hs7 := hB7.size
          clear hPd hBd hg7
          go_wp2
          go_loopw [11, 12] (fun v i wr => ∃ q : Nat, q ≤ a ∧ i = .int .i64 q ∧ v = .bool ((l.take q).contains (k : Int)) ∧ wr = w7) (fun _ i _ => a - (intOf i).toNat)
          case atStart => exact ⟨0, Nat.zero_le _, rfl, rfl, rfl⟩
          case round =>
            obtain ⟨q, hq, rfl, rfl, rfl⟩ := hrel
            by_cases hqa : (q : Int) < a
            · obtain ⟨lb, loff, lcap', hlv, hlb, hlc⟩ := w0.at (by omega)
              have hcq : wr.cell? ⟨lb, loff + q, none⟩ = some (.int .i64 (l.getD q 0)) := (hB7.cell (p := ⟨lb, loff + q, none⟩) (by simp; omega)).trans (hlc q (by omega))
              have hst := contains_step (l := l) (q := q) k (by omega)
              generalize l.getD q 0 = y at hcq hst
              rw [hll] at hlv
              obtain ⟨rfl, rfl⟩ : lo = some ⟨lb, loff, none⟩ ∧ lcap = lcap' := by simpa using hlv
              clear hlc
              have HST := hide hst
              clear hst
              generalize hv : (l.take q).contains (k : Int) = v at *
              clear hv
              cases v with
              | true =>
                go_wp2
                go_roundw
                case rel => exact ⟨q + 1, by omega, by go_num, by rw [HST.out]; rfl, trivial⟩
                case measure => simp [intOf]; omega
              | false =>
                go_wp2
                go_roundw
                case rel => exact ⟨q + 1, by omega, by go_num, by rw [HST.out]; rfl, trivial⟩
                case measure => simp [intOf]; omega
            · obtain rfl : q = a := by omega
              rw [List.take_of_length_le (by omega)]
              have hF := Fails_any _ _ _ _ 100 hP7 ⟨by simp; omega, by simp; omega, by simp, wf_i64 (by simp) (by simp), hmask'⟩ (by omega)
              rw [failed_at] at hF
              generalize l.contains (k : Int) = r at *
              go_wp2_with fail
              refine hF.mono ?_
              rintro e w8 ⟨rfl, hg8⟩
              have hP8 := hP7.kept hg8 (by simp)
              have hB8 : Below b w w8 := hB7.grown hg8 (by omega) (by simp)
              clear hF hP7 hB7 hg8
              cases r
              all_goals
                go_wp2_with fail
                refine (Steps_any _ _ _ _ hP8).mono ?_
                rintro e w9 ⟨rfl, rfl⟩
                go_wp2
                go_roundw
                case rel => exact ⟨k + 1, by omega, by go_num, _, hmask', hP8, hB8⟩
                case measure => simp [intOf]; omega
      · obtain rfl : k = n := by omega
        go_wp2
        go_ret
        exact ⟨rfl, by rw [hbn]; exact hBk⟩
end Go.Proofs.Ythocjbcjmcoioaa
