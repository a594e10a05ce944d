/-
  The program's pack: an inode.
-/
import Derived.Test.YtgkmgpjhpplkiaaPackJ
import Derived.Test.YtgkmgpjhpplkiaaPackN
import Derived.Test.YtgkmgpjhpplkiaaPackD
import Derived.Deep.RegionHeld3
namespace Go.Proofs.Ytgkmgpjhpplkiaa
open Go.RowKit
set_option linter.unusedVariables false
set_option maxRecDepth 100000

theorem packEs_ge (l : List En) : l.length ≤ (l.flatMap packE).length := by
  induction l with
  | nil => simp
  | cons a t ih => rw [List.flatMap_cons, List.length_append, packE_length, List.length_cons]; omega
theorem packRs_ge (l : List Rn) : l.length ≤ (l.flatMap packR).length := by
  induction l with
  | nil => simp
  | cons a t ih => rw [List.flatMap_cons, List.length_append, packR_length, List.length_cons]; omega
/-- What the region of an entry keeps. -/
def EntK (base : Nat) (w0 : World) (g : Nat) (s : ByteArray) (n : Int) (w' : World) : Prop := (w'.cell? ⟨g, 0, none⟩ = some (.string s) ∧ w'.cell? ⟨g, 1, none⟩ = some (.int .i64 n)) ∧ (Blk w' g #[.string s, .int .i64 n] 49 ∧ Kp base w0 w')
theorem EntK.mk {base : Nat} {w0 w' : World} {g : Nat} {s : ByteArray} {n : Int} (h : Blk w' g #[.string s, .int .i64 n] 49) (k : Kp base w0 w') : EntK base w0 g s n w' := ⟨⟨h.cell 0, h.cell 1⟩, h, k⟩
theorem EntK.step {base : Nat} {w0 w w' : World} {g : Nat} {s : ByteArray} {n : Int} (hb : Kp base w w') (h : EntK base w0 g s n w) : EntK base w0 g s n w' := .mk (hb.blk h.2.1 (by decide)) (h.2.2.trans hb)

set_option maxHeartbeats 8000000 in
theorem putInode_any (w : World) (base : Nat) (b ev rv : Value) (xs : List Int) (x : Ino) (h : Own base w b xs) (hb : base ≤ w.heap.size) (he : ∀ w', Kp base w w' → ERow w' ev x.es) (hr : ∀ w', Kp base w w' → RRow w' rv x.rs) (hwf : InoWf x) (hn : xs.length + (packI x).length ≤ 1000000) :
    Calls Try.prog 25 #[b, .agg (inoCells x ev rv)] w (Pk w base (xs ++ packI x)) := by
  obtain ⟨no, kind, links, size, t, es, rs⟩ := x
  have h0e := he w (Kp.refl _ _)
  have h0r := hr w (Kp.refl _ _)
  dsimp only at h0e h0r
  obtain ⟨ea, ec, hea⟩ := h0e.of_len
  obtain ⟨ra, rc, hra⟩ := h0r.of_len
  subst hea hra
  have hPI := packI_length ⟨no, kind, links, size, t, es, rs⟩
  dsimp only at hPI
  have hll := h0e.lenRun
  have hlr := h0r.lenRun
  have HPK := hide (show xs ++ packI ⟨no, kind, links, size, t, es, rs⟩ = (((xs ++ [no, kind, links, size].flatMap n8) ++ packT t) ++ n4 es.length ++ es.flatMap packE) ++ n4 rs.length ++ rs.flatMap packR by simp only [packI, List.flatMap_cons, List.flatMap_nil, List.append_nil, List.append_assoc])
  have hge := packEs_ge es
  have hgr := packRs_ge rs
  have hlem : es.length ≤ 1000000 := by omega
  have hlrm : rs.length ≤ 1000000 := by omega
  clear hge hgr
  have HN := hide (show xs.length + 32 + (4 + t.size) + 4 + (es.flatMap packE).length + 4 + (rs.flatMap packR).length ≤ 1000000 by omega)
  obtain ⟨le, hLe⟩ : ∃ n, es.length = n := ⟨_, rfl⟩
  obtain ⟨lr, hLr⟩ : ∃ n, rs.length = n := ⟨_, rfl⟩
  have HLE := hide hLe
  have HLR := hide hLr
  rw [hLe] at hll hlem he
  rw [hLr] at hlr hlrm hr
  simp only [hLe, hLr] at HPK
  dsimp only [inoCells]
  simp only [hLe, hLr]
  have HE := hide he
  have HRr := hide hr
  have HWF := hide hwf
  have H := hide h
  have HB := hide hb
  dsimp only at HE HRr
  clear he hr hwf h hb h0e h0r hPI hn hLe hLr
  have hba := kl_alloc w (.cells #[.int .i64 no, .int .i64 kind, .int .i64 links, .int .i64 size, .string t, .slice ea le ec, .slice ra lr rc] 36)
  have HG := hide (Blk.new w #[.int .i64 no, .int .i64 kind, .int .i64 links, .int .i64 size, .string t, .slice ea le ec, .slice ra lr rc] 36)
  have HO0 := hide (H.out.kept hba)
  have HK0 := hide (Kp.of_below (base := base) hba)
  clear hba H
  go_enter Try.func25, Try.ntmps25
  go_upto_region 1 with fail
  generalize w.alloc (.cells #[.int .i64 no, .int .i64 kind, .int .i64 links, .int .i64 size, .string t, .slice ea le ec, .slice ra lr rc] 36) = V at *
  have HWS := hide HK0.out.size
  generalize w.heap.size = g at *
  have c0 : V.cell? ⟨g, 0, none⟩ = some (.int .i64 no) := HG.out.cell 0
  have c1 : V.cell? ⟨g, 1, none⟩ = some (.int .i64 kind) := HG.out.cell 1
  have c2 : V.cell? ⟨g, 2, none⟩ = some (.int .i64 links) := HG.out.cell 2
  have c3 : V.cell? ⟨g, 3, none⟩ = some (.int .i64 size) := HG.out.cell 3
  have HBV := hide (show base ≤ V.heap.size from Nat.le_trans HB.out HWS.out)
  go_wp2_with fail
  refine (putNumbers_any _ base b _ xs [no, kind, links, size] (HO0.out.alloc _) (by have := HBV.out; simp; omega) (fun w' hk => irow_blk (vs := [no, kind, links, size]) (hk.blk (Blk.new V _ _) (by decide)) (by have := HWF.out; intro n hn; simp at hn; rcases hn with rfl | rfl | rfl | rfl; exact this.no; exact this.kind; exact this.links; exact this.size) (by simp)) (by have := HN.out; omega) (by simp)).mono ?_
  rintro e w1 ⟨u1, rfl, ho, hk⟩
  have HO1 := hide ho
  have HK1 := hide (HK0.out.trans ((Kp.of_below (kl_alloc _ _)).trans hk))
  have HG1 := hide ((Kp.of_below (base := base) (kl_alloc V _)).trans hk |>.blk HG.out (by decide))
  have HB1 := hide (Nat.le_trans HBV.out (Nat.le_trans (kl_alloc V _).size hk.size))
  clear ho hk HO0 HK0 HG HBV c0 c1 c2 c3
  obtain ⟨L1, hL1⟩ : ∃ l, l = xs ++ [no, kind, links, size].flatMap n8 := ⟨_, rfl⟩
  have hF1 : L1.length = xs.length + 32 := by rw [hL1, List.length_append, n8s_length]; rfl
  rw [← hL1] at HO1
  have HL1 := hide hL1
  have HN1 := hide (show L1.length + (4 + t.size) + 4 + (es.flatMap packE).length + 4 + (rs.flatMap packR).length ≤ 1000000 by have := HN.out; omega)
  clear hL1 hF1 HN
  have c4 : w1.cell? ⟨g, 4, none⟩ = some (.string t) := HG1.out.cell 4
  go_wp2_with fail
  refine (putText_any w1 base u1 L1 t HO1.out HB1.out (by have := HN1.out; omega) (by have := HN1.out; omega)).mono ?_
  rintro e w2 ⟨u2, rfl, ho, hk⟩
  have HO2 := hide ho
  have HK2 := hide (HK1.out.trans hk)
  have HG2 := hide (hk.blk HG1.out (by decide))
  have HB2 := hide (Nat.le_trans HB1.out hk.size)
  clear ho hk HO1 HK1 HG1 HB1 c4
  obtain ⟨L2, hL2⟩ : ∃ l, l = L1 ++ packT t := ⟨_, rfl⟩
  have hF2 : L2.length = L1.length + (4 + t.size) := by rw [hL2]; simp only [packT, List.length_append, n4_length, bytesIn_length]
  rw [← hL2] at HO2
  have HL2 := hide hL2
  have HN2 := hide (show L2.length + 4 + (es.flatMap packE).length + 4 + (rs.flatMap packR).length ≤ 1000000 by have := HN1.out; omega)
  clear hL2 hF2 HN1
  have c5 : w2.cell? ⟨g, 5, none⟩ = some (.slice ea le ec) := HG2.out.cell 5
  go_wp2_with fail
  refine (putCount_any w2 base u2 L2 le HO2.out HB2.out (by have := HN2.out; omega) (by omega)).mono ?_
  rintro e w3 ⟨u3, rfl, ho, hk⟩
  have HO3 := hide ho
  have HK3 := hide (HK2.out.trans hk)
  have HG3 := hide (hk.blk HG2.out (by decide))
  have HB3 := hide (Nat.le_trans HB2.out hk.size)
  clear ho hk HO2 HK2 HG2 HB2 c5
  obtain ⟨L3, hL3⟩ : ∃ l, l = L2 ++ n4 (le : Int) := ⟨_, rfl⟩
  have hF3 : L3.length = L2.length + 4 := by rw [hL3, List.length_append, n4_length]
  rw [← hL3] at HO3
  have HL3 := hide hL3
  have HN3 := hide (show L3.length + (es.flatMap packE).length + 4 + (rs.flatMap packR).length ≤ 1000000 by have := HN2.out; omega)
  clear hL3 hF3 HN2
  have c5 : w3.cell? ⟨g, 5, none⟩ = some (.slice ea le ec) := HG3.out.cell 5
  go_wp2
  clear c5
  go_loopw [0, 32] (fun u i wr => ∃ m : Nat, m ≤ le ∧ i = .int .i64 m ∧ Hid (Own base wr u (L3 ++ (es.take m).flatMap packE)) ∧ Hid (Kp base w3 wr)) (fun _ i _ => le - (intOf i).toNat)
  case atStart => exact ⟨0, Nat.zero_le _, rfl, hide (by simpa using HO3.out), hide (Kp.refl _ _)⟩
  case round =>
    obtain ⟨m, hm, rfl, HO, HK⟩ := hrel
    have HGm := hide (HK.out.blk HG3.out (by decide))
    have HKm := hide (HK3.out.trans HK.out)
    have HBm := hide (Nat.le_trans HB3.out HK.out.size)
    by_cases hmt : m < le
    · have hmt' : (m : Int) < le := by omega
      have hmx : m < es.length := by rw [HLE.out]; exact hmt
      have hrow := HE.out wr HKm.out
      obtain ⟨b2, o2, hbs2, hid2, e0, e1⟩ := hrow.idx m hmx
      have hywf := hrow.2 (es.getD m default) (by rw [List.getD, List.getElem?_eq_getElem hmx]; exact List.getElem_mem hmx)
      have hse := flat_take packE hmx
      have hsu := flat_upto packE es (m + 1)
      generalize es.getD m default = y at *
      obtain ⟨ys, yn⟩ := y
      dsimp only at e0 e1
      rw [hse, List.length_append, packE_length] at hsu
      dsimp only at hsu
      obtain ⟨Lm, hLm⟩ : ∃ l, l = L3 ++ (es.take m).flatMap packE := ⟨_, rfl⟩
      rw [← hLm] at HO
      have hLl : Lm.length + ys.size + 12 ≤ 1000000 := by have := HN3.out; rw [hLm, List.length_append]; omega
      have HNx := hide (show L3 ++ (es.take (m + 1)).flatMap packE = (Lm ++ packT ys) ++ [yn].flatMap n8 by rw [hse, hLm]; simp only [packE, packT, List.flatMap_cons, List.flatMap_nil, List.append_nil, List.append_assoc])
      have HYW := hide hywf.n
      have HF1 := hide (show Lm.length ≤ 2000000 ∧ ys.size ≤ 2000000 by omega)
      have HF2 := hide (show (Lm ++ packT ys).length ≤ 2000000 by simp only [packT, List.length_append, n4_length, bytesIn_length]; omega)
      have hba := kl_alloc wr (.cells #[.string ys, .int .i64 yn] 49)
      have hbl := Blk.new wr #[.string ys, .int .i64 yn] 49
      have HOa := hide (HO.out.kept hba)
      have HKa := hide (Kp.of_below (base := base) hba)
      have HS := hide (EntK.mk hbl (Kp.refl base _))
      have HBa := hide (Nat.le_trans HBm.out hba.size)
      clear hrow hywf hse hsu hLm hLl hba hbl
      go_upto_region 7 with fail
      generalize wr.alloc (.cells #[.string ys, .int .i64 yn] 49) = Y at *
      generalize wr.heap.size = yg at *
      clear e0 e1 hbs2 hid2
      have d0 : Y.cell? ⟨yg, 0, none⟩ = some (.string ys) := HS.out.1.1
      have d1 : Y.cell? ⟨yg, 1, none⟩ = some (.int .i64 yn) := HS.out.1.2
      go_wp2_with fail
      go_region_held3 (fun w' => (w'.cell? ⟨yg, 0, none⟩ = some (.string ys) ∧ w'.cell? ⟨yg, 1, none⟩ = some (.int .i64 yn)) ∧ (Blk w' yg #[.string ys, .int .i64 yn] 49 ∧ Kp base Y w'))
        (first
          | assumption
          | exact EntK.step (.of_below (kl_drew _)) HS.out
          | exact EntK.step hk8 (show EntK base Y yg ys yn _ by assumption)
          | exact EntK.step hk8 (EntK.step (.of_below (kl_alloc _ _)) (show EntK base Y yg ys yn _ by assumption))
          | exact EntK.step hk7 (show EntK base Y yg ys yn _ by assumption)
          | exact EntK.step (.of_below (kl_alloc _ _)) (show EntK base Y yg ys yn _ by assumption)
          | fail)
        (first
          | (go_at_call_of 39 u0; refine (putText_any _ base u0 Lm ys (by first | exact HOa.out.kept (kl_drew _) | exact HOa.out.kept (kl_step (kl_alloc _ _) (kl_drew _))) (by first | exact HBa.out | exact Nat.le_trans HBa.out (kl_step (kl_alloc _ _) (kl_drew _)).size) HF1.out.1 HF1.out.2).mono ?_; rintro e x7 ⟨y7, rfl, ho7, hk7⟩)
          | (go_at_call_of 24 y7; refine (putNumbers_any _ base y7 _ (Lm ++ packT ys) [yn] (by first | exact ho7 | exact ho7.alloc _) (by first | exact Nat.le_trans HBa.out (show Y.drew.heap.size ≤ _ from hk7.size) | exact Nat.le_trans HBa.out (Nat.le_trans (show Y.drew.heap.size ≤ _ from hk7.size) (kl_alloc _ _).size) | exact Nat.le_trans HBa.out (Nat.le_trans (kl_step (kl_alloc _ _) (kl_drew _)).size hk7.size)) (fun w' hk => irow_blk (vs := [yn]) (hk.blk (by first | exact Blk.new _ _ _ | exact hk7.blk (Blk.new _ _ _) (by decide)) (by decide)) (by intro n hn; rw [List.mem_singleton] at hn; subst hn; exact HYW.out) (by simp)) HF2.out (by simp)).mono ?_; rintro e x8 ⟨y8, rfl, ho8, hk8⟩)
          | fail)
      all_goals
        have hX : EntK base Y yg ys yn x8 := by assumption
        have HK8 := hide (HK.out.trans (HKa.out.trans hX.2.2))
        have HO8 := hide ho8
        clear hX ho7 ho8 hk7 hk8
        go_wp2
        exact ⟨⟨m + 1, by omega, by go_num, hide (by rw [HNx.out]; exact HO8.out), HK8⟩, by simp [intOf]; omega⟩
    · obtain rfl : m = le := by omega
      have HEs := hide (show es.take m = es by rw [← HLE.out]; exact List.take_length)
      rw [HEs.out] at HO
      obtain ⟨L4, hL4⟩ : ∃ l, l = L3 ++ es.flatMap packE := ⟨_, rfl⟩
      have hF4 : L4.length = L3.length + (es.flatMap packE).length := by rw [hL4, List.length_append]
      rw [← hL4] at HO
      have HL4 := hide hL4
      have HN4 := hide (show L4.length + 4 + (rs.flatMap packR).length ≤ 1000000 by have := HN3.out; omega)
      clear hL4 hF4
      have c6 : wr.cell? ⟨g, 6, none⟩ = some (.slice ra lr rc) := HGm.out.cell 6
      go_wp2_with fail
      refine (putCount_any wr base u0 L4 lr HO.out HBm.out (by have := HN4.out; omega) (by omega)).mono ?_
      rintro e w5 ⟨u5, rfl, ho, hk⟩
      have HO5 := hide ho
      have HK5 := hide (HKm.out.trans hk)
      have HG5 := hide (hk.blk HGm.out (by decide))
      have HB5 := hide (Nat.le_trans HBm.out hk.size)
      clear ho hk HO HK HGm HKm HBm HO3 HK3 HG3 HB3 c6
      obtain ⟨L5, hL5⟩ : ∃ l, l = L4 ++ n4 (lr : Int) := ⟨_, rfl⟩
      have hF5 : L5.length = L4.length + 4 := by rw [hL5, List.length_append, n4_length]
      rw [← hL5] at HO5
      have HL5 := hide hL5
      have HN5 := hide (show L5.length + (rs.flatMap packR).length ≤ 1000000 by have := HN4.out; omega)
      clear hL5 hF5
      have c6 : w5.cell? ⟨g, 6, none⟩ = some (.slice ra lr rc) := HG5.out.cell 6
      go_wp2
      clear c6
      go_loopw [0, 53] (fun u i wr => ∃ n : Nat, n ≤ lr ∧ i = .int .i64 n ∧ Hid (Own base wr u (L5 ++ (rs.take n).flatMap packR)) ∧ Hid (Kp base w5 wr)) (fun _ i _ => lr - (intOf i).toNat)
      case atStart => exact ⟨0, Nat.zero_le _, rfl, hide (by simpa using HO5.out), hide (Kp.refl _ _)⟩
      case round =>
        obtain ⟨n, hn, rfl, HO, HK⟩ := hrel
        have HKm := hide (HK5.out.trans HK.out)
        have HBm := hide (Nat.le_trans HB5.out HK.out.size)
        by_cases hmt : n < lr
        · have hmt' : (n : Int) < lr := by omega
          have hmx : n < rs.length := by rw [HLR.out]; exact hmt
          have hrow := HRr.out wr HKm.out
          obtain ⟨b2, o2, hbs2, hid2, e0, e1, e2⟩ := hrow.idx n hmx
          have hywf := hrow.2 (rs.getD n default) (by rw [List.getD, List.getElem?_eq_getElem hmx]; exact List.getElem_mem hmx)
          have hse := flat_take packR hmx
          have hsu := flat_upto packR rs (n + 1)
          generalize rs.getD n default = y at *
          obtain ⟨rf, rA, rn⟩ := y
          dsimp only at e0 e1 e2
          rw [hse, List.length_append, packR_length] at hsu
          obtain ⟨Ln, hLn⟩ : ∃ l, l = L5 ++ (rs.take n).flatMap packR := ⟨_, rfl⟩
          rw [← hLn] at HO
          have hLl : Ln.length + 24 ≤ 1000000 := by have := HN5.out; rw [hLn, List.length_append]; omega
          have HNx := hide (show L5 ++ (rs.take (n + 1)).flatMap packR = Ln ++ [rf, rA, rn].flatMap n8 by rw [hse, hLn]; simp only [packR, List.flatMap_cons, List.flatMap_nil, List.append_nil, List.append_assoc])
          have HYW := hide hywf
          have HF1 := hide (show Ln.length ≤ 2000000 by omega)
          have hba := kl_alloc wr (.cells #[.int .i64 rf, .int .i64 rA, .int .i64 rn] 67)
          have hbl := Blk.new wr #[.int .i64 rf, .int .i64 rA, .int .i64 rn] 67
          have HOa := hide (HO.out.kept hba)
          have HKa := hide (HK.out.trans (Kp.of_below (base := base) hba))
          have HBa := hide (Nat.le_trans HBm.out hba.size)
          have HBl := hide hbl
          clear hrow hywf hse hsu hLn hLl hba hbl
          go_upto_region 13 with fail
          generalize wr.alloc (.cells #[.int .i64 rf, .int .i64 rA, .int .i64 rn] 67) = Y at *
          generalize wr.heap.size = yg at *
          clear e0 e1 e2 hbs2 hid2
          have d0 : Y.cell? ⟨yg, 0, none⟩ = some (.int .i64 rf) := HBl.out.cell 0
          have d1 : Y.cell? ⟨yg, 1, none⟩ = some (.int .i64 rA) := HBl.out.cell 1
          have d2 : Y.cell? ⟨yg, 2, none⟩ = some (.int .i64 rn) := HBl.out.cell 2
          go_wp2_with fail
          refine (putNumbers_any _ base u0 _ Ln [rf, rA, rn] (HOa.out.alloc _) (by have := HBa.out; simp; omega) (fun w' hk => irow_blk (vs := [rf, rA, rn]) (hk.blk (Blk.new Y _ _) (by decide)) (by have := HYW.out; intro n hn; simp at hn; rcases hn with rfl | rfl | rfl; exact this.f; exact this.a; exact this.n) (by simp)) HF1.out (by simp)).mono ?_
          rintro e x8 ⟨y8, rfl, ho8, hk8⟩
          have HK8 := hide (HKa.out.trans ((Kp.of_below (kl_alloc _ _)).trans hk8))
          have HO8 := hide ho8
          clear ho8 hk8
          go_wp2
          exact ⟨⟨n + 1, by omega, by go_num, hide (by rw [HNx.out]; exact HO8.out), HK8⟩, by simp [intOf]; omega⟩
        · obtain rfl : n = lr := by omega
          have HRs := hide (show rs.take n = rs by rw [← HLR.out]; exact List.take_length)
          rw [HRs.out] at HO
          go_wp2
          go_ret
          exact ⟨_, rfl, by rw [HPK.out, ← HL1.out, ← HL2.out, ← HL3.out, ← HL4.out, ← HL5.out]; exact HO.out, HKm.out⟩
end Go.Proofs.Ytgkmgpjhpplkiaa
