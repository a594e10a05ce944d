/-
  The program's Deeds.
-/
import Derived.Test.YtgkmgpjhpplkiaaPackU
namespace Go.Proofs.Ytgkmgpjhpplkiaa
open Go.RowKit
set_option linter.unusedVariables false
set_option maxRecDepth 100000

set_option maxHeartbeats 8000000 in
theorem Deeds_any (w : World) (v : Value) (xs : List Dv) (h : DRow w v xs) (hN : (packL (xs.map Dv.d)).length ≤ 1000000) :
    Calls Try.prog 14 #[v] w (MadeB w (packL (xs.map Dv.d))) := by
  have hlen := h.lenRun
  have hlm := h.len
  unfold maxLen at hlm
  have HD := hide h
  have HN := hide hN
  clear h hN
  obtain ⟨len, hL⟩ : ∃ n, xs.length = n := ⟨_, rfl⟩
  have HL := hide hL
  simp only [hL] at hlen
  rw [hL] at hlm
  clear hL
  go_enter Try.func14, Try.ntmps14
  go_wp2
  go_loopw [3, 8] (fun b i wr => ∃ (k : Nat), k ≤ len ∧ i = .int .i64 k ∧ Hid (Own w.heap.size wr b (packL ((xs.take k).map Dv.d))) ∧ Hid (Below w.heap.size w wr)) (fun _ i _ => len - (intOf i).toNat)
  case atStart => exact ⟨0, Nat.zero_le _, rfl, hide (Own.nil _ _), hide (Below.refl _ _)⟩
  case round =>
    obtain ⟨k, hk, rfl, HO, HB⟩ := hrel
    by_cases hlt : k < len
    · have hlt' : (k : Int) < len := by omega
      have hkx : k < xs.length := by rw [HL.out]; exact hlt
      obtain ⟨b, o, hbs, hidx, hc⟩ := (HD.out.below HB.out).idx k hkx
      have hsum := packL_take hkx
      have hup := packL_upto xs (k + 1)
      have hmem : xs.getD k default ∈ xs := by rw [List.getD, List.getElem?_eq_getElem hkx]; exact List.getElem_mem hkx
      have HRD := hide (fun w' (hb : Below w.heap.size w w') => (HD.out.below hb).2 (xs.getD k default) hmem)
      have hwf := HD.out.1.2 (xs.getD k default) hmem
      have hrd := HD.out.2 (xs.getD k default) hmem
      generalize xs.getD k default = x at *
      clear hmem
      rw [hsum, List.length_append] at hup
      have HFit := hide (Nat.le_trans hup HN.out)
      have HS := hide hsum
      generalize packL ((xs.take k).map Dv.d) = P at *
      obtain ⟨⟨kk, nn, ⟨no, kind, links, size, t, es, rs⟩⟩, ev, rv⟩ := x
      obtain ⟨hre, hrr⟩ := hrd
      dsimp only at hre hrr
      obtain ⟨ea, ec, hev⟩ := hre.of_len
      obtain ⟨ra, rc, hrv⟩ := hrr.of_len
      generalize es.length = le at hev
      generalize rs.length = lr at hrv
      subst hev hrv
      have HWF := hide hwf
      dsimp only at HS HFit
      have p0 : wr.cell? ⟨b, o, none⟩ = some (.int .i64 kk) := hc 0 _ rfl
      have p1 : wr.cell? ⟨b, o + 1, none⟩ = some (.int .i64 nn) := hc 1 _ rfl
      have p2 : wr.cell? ⟨b, o + 2, none⟩ = some (.int .i64 no) := hc 2 _ rfl
      have p3 : wr.cell? ⟨b, o + 3, none⟩ = some (.int .i64 kind) := hc 3 _ rfl
      have p4 : wr.cell? ⟨b, o + 4, none⟩ = some (.int .i64 links) := hc 4 _ rfl
      have p5 : wr.cell? ⟨b, o + 5, none⟩ = some (.int .i64 size) := hc 5 _ rfl
      have p6 : wr.cell? ⟨b, o + 6, none⟩ = some (.string t) := hc 6 _ rfl
      have p7 : wr.cell? ⟨b, o + 7, none⟩ = some (.slice ea le ec) := hc 7 _ rfl
      have p8 : wr.cell? ⟨b, o + 8, none⟩ = some (.slice ra lr rc) := hc 8 _ rfl
      clear hre hrr hwf hc hsum hup
      have hB1 := kl_alloc wr (.cells #[.int .i64 kk, .int .i64 nn, .int .i64 no, .int .i64 kind, .int .i64 links, .int .i64 size, .string t, .slice ea le ec, .slice ra lr rc] 38)
      have hBl := Blk.new wr #[.int .i64 kk, .int .i64 nn, .int .i64 no, .int .i64 kind, .int .i64 links, .int .i64 size, .string t, .slice ea le ec, .slice ra lr rc] 38
      have HB1 := hide (kl_step hB1 HB.out)
      have HO1 := hide (HO.out.kept hB1)
      have HBL := hide hBl
      clear hB1 hBl
      go_upto_region 5 with fail
      generalize wr.alloc (.cells #[.int .i64 kk, .int .i64 nn, .int .i64 no, .int .i64 kind, .int .i64 links, .int .i64 size, .string t, .slice ea le ec, .slice ra lr rc] 38) = V at *
      generalize wr.heap.size = g at *
      clear p0 p1 p2 p3 p4 p5 p6 p7 p8 HO HB hbs hidx
      have q0 : V.cell? ⟨g, 0, none⟩ = some (.int .i64 kk) := HBL.out.cell 0
      have hby : 0 ≤ kk % 256 ∧ kk % 256 < 256 := by omega
      have hkw : IntKind.u8.wrap kk = kk % 256 := by rw [IntKind.wrap_u8]
      go_wp2_with (at_builtin; (try rw [hkw]); refine wpList_append_row rfl _ _ rfl w.heap.size _ _ P [kk % 256] rfl (HO1.out.alloc _) rfl (row_new1 _ _ hby) (by have := HFit.out; simp; omega) (by have := HB1.out.size; simp; omega) ?_)
      intro u1 w1 ho1 hg1
      have hkp := (Kp.of_below (base := w.heap.size) (kl_alloc V (.cells #[.int .u8 (kk % 256)] 5))).trans (Kp.of_own (HO1.out.alloc _) hg1)
      have HBL2 := hide (hkp.blk HBL.out (by decide))
      have HB2 := hide (HB1.out.trans (hkp.below (Nat.le_refl _) HB1.out.size))
      have HO2 := hide ho1
      have HLen := hide (show (P ++ [kk % 256]).length = P.length + 1 by simp)
      clear ho1 hg1 hkp HO1 HB1 HBL q0 hkw hby
      have q0 : w1.cell? ⟨g, 0, none⟩ = some (.int .i64 kk) := HBL2.out.cell 0
      by_cases hkk : kk = 1 ∨ kk = 3 ∨ kk = 4
      · have q1 : w1.cell? ⟨g, 1, none⟩ = some (.int .i64 nn) := HBL2.out.cell 1
        have hPD : packD ⟨kk, nn, ⟨no, kind, links, size, t, es, rs⟩⟩ = [kk % 256] ++ n8 nn := packD_1 hkk
        rw [hPD] at HS
        have HFn := hide (show (P ++ [kk % 256]).length ≤ 2000000 by rw [HLen.out]; have := HFit.out; omega)
        have HS2 := hide (show packL ((xs.take (k + 1)).map Dv.d) = (P ++ [kk % 256]) ++ [nn].flatMap n8 by rw [HS.out, ← List.append_assoc]; simp)
        clear hPD HS
        rcases hkk with rfl | rfl | rfl
        all_goals
          go_wp2_with fail
          refine (putNumbers_any _ w.heap.size u1 _ _ [nn] (HO2.out.alloc _) (by have := HB2.out.size; simp; omega) (fun w' hk => irow_blk (vs := [nn]) (hk.blk (Blk.new w1 _ _) (by decide)) (by intro n hn; rw [List.mem_singleton] at hn; subst hn; exact HWF.out.no) (by simp)) HFn.out (by simp)).mono ?_
          rintro e w2 ⟨u2, rfl, ho2, hk2⟩
          have HO3 := hide ho2
          have HB3 := hide (HB2.out.trans (((Kp.of_below (kl_alloc _ _)).trans hk2).below (Nat.le_refl _) HB2.out.size))
          clear ho2 hk2
          go_wp2
          exact ⟨⟨k + 1, by omega, by go_num, by rw [HS2.out]; exact HO3, HB3⟩, by simp [intOf]; omega⟩
      · by_cases hk2 : kk = 2
        · subst hk2
          have hPD : packD ⟨2, nn, ⟨no, kind, links, size, t, es, rs⟩⟩ = [2 % 256] ++ packI ⟨no, kind, links, size, t, es, rs⟩ := packD_2 rfl
          rw [hPD] at HS HFit
          clear hPD hkk
          have q2 : w1.cell? ⟨g, 2, none⟩ = some (.int .i64 no) := HBL2.out.cell 2
          have q3 : w1.cell? ⟨g, 3, none⟩ = some (.int .i64 kind) := HBL2.out.cell 3
          have q4 : w1.cell? ⟨g, 4, none⟩ = some (.int .i64 links) := HBL2.out.cell 4
          have q5 : w1.cell? ⟨g, 5, none⟩ = some (.int .i64 size) := HBL2.out.cell 5
          have q6 : w1.cell? ⟨g, 6, none⟩ = some (.string t) := HBL2.out.cell 6
          have q7 : w1.cell? ⟨g, 7, none⟩ = some (.slice ea le ec) := HBL2.out.cell 7
          have q8 : w1.cell? ⟨g, 8, none⟩ = some (.slice ra lr rc) := HBL2.out.cell 8
          have HC := hide (putInode_any w1 w.heap.size u1 (.slice ea le ec) (.slice ra lr rc) (P ++ [2 % 256]) ⟨no, kind, links, size, t, es, rs⟩ HO2.out HB2.out.size (fun w' hk => (HRD.out w' (HB2.out.trans (hk.below (Nat.le_refl _) HB2.out.size))).e) (fun w' hk => (HRD.out w' (HB2.out.trans (hk.below (Nat.le_refl _) HB2.out.size))).r) ⟨HWF.out.xno, HWF.out.xkind, HWF.out.xlinks, HWF.out.xsize, HWF.out.t⟩ (by have := HFit.out; rw [List.length_append] at this; rw [HLen.out]; simp only [List.length_singleton] at this; omega))
          dsimp only [inoCells] at HC
          go_wp2_with fail
          refine HC.out.mono ?_
          rintro e w2 ⟨u2, rfl, ho2, hk2⟩
          have HO3 := hide ho2
          have HB3 := hide (HB2.out.trans (hk2.below (Nat.le_refl _) HB2.out.size))
          clear ho2 hk2
          go_wp2
          exact ⟨⟨k + 1, by omega, by go_num, by rw [HS.out, ← List.append_assoc]; exact HO3, HB3⟩, by simp [intOf]; omega⟩
        · have hPD : packD ⟨kk, nn, ⟨no, kind, links, size, t, es, rs⟩⟩ = [kk % 256] := packD_0 hkk hk2
          rw [hPD] at HS
          have h1 : (kk == 1) = false := by simp; omega
          have h2 : (kk == 2) = false := by simp; omega
          have h3 : (kk == 3) = false := by simp; omega
          have h4 : (kk == 4) = false := by simp; omega
          clear hPD hkk hk2
          go_wp2
          exact ⟨⟨k + 1, by omega, by go_num, by rw [HS.out]; exact HO2, HB2⟩, by simp [intOf]; omega⟩
    · obtain rfl : k = len := by omega
      have HE := hide (show xs.take k = xs by rw [List.take_of_length_le (by rw [HL.out]; exact Nat.le_refl _)])
      go_wp2
      go_ret
      exact ⟨_, rfl, by have := HO.out; rw [HE.out] at this; exact this, HB.out⟩
end Go.Proofs.Ytgkmgpjhpplkiaa
