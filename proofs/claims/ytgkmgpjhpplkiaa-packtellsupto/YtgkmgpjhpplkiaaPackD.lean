/-
  The document's Pack.
-/
import Derived.Test.YtgkmgpjhpplkiaaPackA
import Derived.Test.YtgkmgpjhpplkiaaPackM
import Derived.Test.YtgkmgpjhpplkiaaMem2
import Derived.Test.YtgkmgpjhpplkiaaDrawn
import Derived.Deep.RegionHeld3
import Derived.Deep.CutBlock
import Derived.Deep.DeepCutAuto
namespace Go.Proofs.Ytgkmgpjhpplkiaa
open Go.RowKit
set_option linter.unusedVariables false
set_option maxRecDepth 100000

theorem packL_take {xs : List Dv} {k : Nat} (h : k < xs.length) : packL ((xs.take (k + 1)).map Dv.d) = packL ((xs.take k).map Dv.d) ++ packD (xs.getD k default).d := by
  rw [List.take_succ_eq_append_getElem h, List.map_append, packL_app, List.map_cons, List.map_nil, packL_one]
  simp [List.getD, List.getElem?_eq_getElem h]
theorem packL_upto (xs : List Dv) (k : Nat) : (packL ((xs.take k).map Dv.d)).length ≤ (packL (xs.map Dv.d)).length := by
  have : packL (xs.map Dv.d) = packL ((xs.take k).map Dv.d) ++ packL ((xs.drop k).map Dv.d) := by rw [← packL_app, ← List.map_append, List.take_append_drop]
  rw [this, List.length_append]
  omega
theorem packD_1 {d : Dd} (h : d.kind = 1 ∨ d.kind = 3 ∨ d.kind = 4) : packD d = [d.kind % 256] ++ n8 d.no := by unfold packD; rw [if_pos h]; rfl
theorem packD_2 {d : Dd} (h : d.kind = 2) : packD d = [d.kind % 256] ++ packI d.x := by unfold packD; rw [if_neg (by omega), if_pos h]; rfl
theorem packD_0 {d : Dd} (h : ¬ (d.kind = 1 ∨ d.kind = 3 ∨ d.kind = 4)) (h2 : ¬ d.kind = 2) : packD d = [d.kind % 256] := by unfold packD; rw [if_neg h, if_neg h2]

theorem packI_length (x : Ino) : (packI x).length = 32 + (4 + x.t.size) + 4 + (x.es.flatMap packE).length + 4 + (x.rs.flatMap packR).length := by
  simp only [packI, packT, List.length_append, n8_length, n4_length, bytesIn_length]
theorem flat_take {α : Type} [Inhabited α] (f : α → List Int) {l : List α} {k : Nat} (h : k < l.length) : (l.take (k + 1)).flatMap f = (l.take k).flatMap f ++ f (l.getD k default) := by
  rw [List.take_succ_eq_append_getElem h, List.flatMap_append]
  simp [List.getD, List.getElem?_eq_getElem h]
theorem flat_upto {α : Type} (f : α → List Int) (l : List α) (k : Nat) : ((l.take k).flatMap f).length ≤ (l.flatMap f).length := by
  have : l.flatMap f = (l.take k).flatMap f ++ (l.drop k).flatMap f := by rw [← List.flatMap_append, List.take_append_drop]
  rw [this, List.length_append]
  omega
theorem packE_length (e : En) : (packE e).length = 4 + e.s.size + 8 := by
  simp only [packE, packT, List.length_append, n8_length, n4_length, bytesIn_length]
theorem packR_length (r : Rn) : (packR r).length = 24 := by
  simp only [packR, List.length_append, n8_length]
/-- What the region of a text and a count keeps. -/
def TwoC (w0 : World) (g : Nat) (a b : Value) (w' : World) : Prop := (w'.cell? ⟨g, 4, none⟩ = some a ∧ w'.cell? ⟨g, 5, none⟩ = some b) ∧ Below w0.heap.size w0 w'
theorem TwoC.step {w0 w w' : World} {g : Nat} {a b : Value} (hb : Below w.heap.size w w') (h : TwoC w0 g a b w) : TwoC w0 g a b w' := by
  obtain ⟨⟨h0, h1⟩, h4⟩ := h
  exact ⟨⟨kl_cell hb h0, kl_cell hb h1⟩, kl_step hb h4⟩
/-- What the region of an entry keeps. -/
def EntC (w0 : World) (g : Nat) (a : Value) (b o : Nat) (s : ByteArray) (n : Int) (w' : World) : Prop := (w'.cell? ⟨g, 5, none⟩ = some a ∧ w'.cell? ⟨b, o, none⟩ = some (.string s) ∧ w'.cell? ⟨b, o + 1, none⟩ = some (.int .i64 n)) ∧ Below w0.heap.size w0 w'
theorem EntC.step {w0 w w' : World} {g : Nat} {a : Value} {b o : Nat} {s : ByteArray} {n : Int} (hb : Below w.heap.size w w') (h : EntC w0 g a b o s n w) : EntC w0 g a b o s n w' := by
  obtain ⟨⟨h0, h1, h2⟩, h4⟩ := h
  exact ⟨⟨kl_cell hb h0, kl_cell hb h1, kl_cell hb h2⟩, kl_step hb h4⟩
/-- What the region of a run keeps. -/
def RunC (w0 : World) (g : Nat) (a : Value) (b o : Nat) (r : Rn) (w' : World) : Prop := (w'.cell? ⟨g, 6, none⟩ = some a ∧ w'.cell? ⟨b, o, none⟩ = some (.int .i64 r.f) ∧ w'.cell? ⟨b, o + 1, none⟩ = some (.int .i64 r.a) ∧ w'.cell? ⟨b, o + 2, none⟩ = some (.int .i64 r.n)) ∧ Below w0.heap.size w0 w'
theorem RunC.step {w0 w w' : World} {g : Nat} {a : Value} {b o : Nat} {r : Rn} (hb : Below w.heap.size w w') (h : RunC w0 g a b o r w) : RunC w0 g a b o r w' := by
  obtain ⟨⟨h0, h1, h2, h3⟩, h4⟩ := h
  exact ⟨⟨kl_cell hb h0, kl_cell hb h1, kl_cell hb h2, kl_cell hb h3⟩, kl_step hb h4⟩
/-- What the region of four numbers keeps. -/
def Four (w0 : World) (g : Nat) (a b c d : Int) (w' : World) : Prop :=
  (w'.cell? ⟨g, 0, none⟩ = some (.int .i64 a) ∧ w'.cell? ⟨g, 1, none⟩ = some (.int .i64 b) ∧ w'.cell? ⟨g, 2, none⟩ = some (.int .i64 c) ∧ w'.cell? ⟨g, 3, none⟩ = some (.int .i64 d)) ∧ Below w0.heap.size w0 w'
theorem Four.step {w0 w w' : World} {g : Nat} {a b c d : Int} (hb : Below w.heap.size w w') (h : Four w0 g a b c d w) : Four w0 g a b c d w' := by
  obtain ⟨⟨h0, h1, h2, h3⟩, h4⟩ := h
  exact ⟨⟨kl_cell hb h0, kl_cell hb h1, kl_cell hb h2, kl_cell hb h3⟩, kl_step hb h4⟩

set_option maxHeartbeats 8000000 in
theorem RPack_any (w : World) (v : Value) (xs : List Dv) (h : DRow w v xs) (hN : (packL (xs.map Dv.d)).length ≤ 1000000) :
    Calls Try.prog 15 #[v] w (MadeB w (packL (xs.map Dv.d))) := by
  have hlen := h.lenRun
  have hlm := h.len
  unfold maxLen at hlm
  have HD := hide h
  have HN := hide hN
  clear h hN
  obtain ⟨len, hL⟩ : ∃ n, xs.length = n := ⟨_, rfl⟩
  have HL := hide hL
  simp only [hL] at hlen
  rw [hL] at hlm
  clear hL
  go_enter Try.func15, Try.ntmps15
  go_wp2
  go_loopw [3, 4] (fun b i wr => ∃ (k : Nat), k ≤ len ∧ i = .int .i64 k ∧ Hid (Own w.heap.size wr b (packL ((xs.take k).map Dv.d))) ∧ Hid (Below w.heap.size w wr)) (fun _ i _ => len - (intOf i).toNat)
  case atStart => exact ⟨0, Nat.zero_le _, rfl, hide (Own.nil _ _), hide (Below.refl _ _)⟩
  case round =>
    obtain ⟨k, hk, rfl, HO, HB⟩ := hrel
    by_cases hlt : k < len
    · have hlt' : (k : Int) < len := by omega
      have hkx : k < xs.length := by rw [HL.out]; exact hlt
      obtain ⟨b, o, hbs, hidx, hc⟩ := (HD.out.below HB.out).idx k hkx
      have hsum := packL_take hkx
      have hup := packL_upto xs (k + 1)
      have hrd := HD.out.2 (xs.getD k default) (by rw [List.getD, List.getElem?_eq_getElem hkx]; exact List.getElem_mem hkx)
      have hwf := HD.out.1.2 (xs.getD k default) (by rw [List.getD, List.getElem?_eq_getElem hkx]; exact List.getElem_mem hkx)
      generalize xs.getD k default = x at *
      rw [hsum, List.length_append] at hup
      have HFit := hide (Nat.le_trans hup HN.out)
      have HS := hide hsum
      generalize packL ((xs.take k).map Dv.d) = P at *
      obtain ⟨⟨kk, nn, ⟨no, kind, links, size, t, es, rs⟩⟩, ev, rv⟩ := x
      obtain ⟨hre, hrr⟩ := hrd
      dsimp only at hre hrr
      obtain ⟨ea, ec, hev⟩ := hre.of_len
      obtain ⟨ra, rc, hrv⟩ := hrr.of_len
      subst hev hrv
      have hlr := hrr.lenRun
      have hle := hre.lenRun
      have hlem := hre.len
      have hlrm := hrr.len
      have HRE := hide hre
      have HRR := hide hrr
      have HT := hide hwf.t
      obtain ⟨le, hLe⟩ : ∃ n, n = es.length := ⟨_, rfl⟩
      obtain ⟨lr, hLr⟩ : ∃ n, n = rs.length := ⟨_, rfl⟩
      have HLE := hide hLe
      have HLR := hide hLr
      unfold maxLen at hlem hlrm
      rw [← hLe] at hle hlem hc HRE
      rw [← hLr] at hlr hlrm hc HRR
      dsimp only at HS HFit
      have p0 : wr.cell? ⟨b, o, none⟩ = some (.int .i64 kk) := hc 0 _ rfl
      have p1 : wr.cell? ⟨b, o + 1, none⟩ = some (.int .i64 nn) := hc 1 _ rfl
      have p2 : wr.cell? ⟨b, o + 2, none⟩ = some (.int .i64 no) := hc 2 _ rfl
      have p3 : wr.cell? ⟨b, o + 3, none⟩ = some (.int .i64 kind) := hc 3 _ rfl
      have p4 : wr.cell? ⟨b, o + 4, none⟩ = some (.int .i64 links) := hc 4 _ rfl
      have p5 : wr.cell? ⟨b, o + 5, none⟩ = some (.int .i64 size) := hc 5 _ rfl
      have p6 : wr.cell? ⟨b, o + 6, none⟩ = some (.string t) := hc 6 _ rfl
      have p7 : wr.cell? ⟨b, o + 7, none⟩ = some (.slice ea le ec) := hc 7 _ rfl
      have p8 : wr.cell? ⟨b, o + 8, none⟩ = some (.slice ra lr rc) := hc 8 _ rfl
      clear hLe hLr hre hrr hwf hc hsum hup
      have hB1 := kl_alloc wr (.cells #[.int .i64 kk, .int .i64 nn, .int .i64 no, .int .i64 kind, .int .i64 links, .int .i64 size, .string t, .slice ea le ec, .slice ra lr rc] 38)
      have hBl := Blk.new wr #[.int .i64 kk, .int .i64 nn, .int .i64 no, .int .i64 kind, .int .i64 links, .int .i64 size, .string t, .slice ea le ec, .slice ra lr rc] 38
      have HB1 := hide (kl_step hB1 HB.out)
      have HO1 := hide (HO.out.kept hB1)
      have HBL := hide hBl
      have HNE := hide (fun k (e : u3.ownBlock = some k) => (HO.out.1.lt k e).2)
      clear hB1 hBl
      go_upto_region 6 with fail
      generalize wr.alloc (.cells #[.int .i64 kk, .int .i64 nn, .int .i64 no, .int .i64 kind, .int .i64 links, .int .i64 size, .string t, .slice ea le ec, .slice ra lr rc] 38) = V at *
      generalize wr.heap.size = g at *
      clear p0 p1 p2 p3 p4 p5 p6 p7 p8 HO HB
      have q0 : V.cell? ⟨g, 0, none⟩ = some (.int .i64 kk) := HBL.out.cell 0
      have hby : 0 ≤ kk % 256 ∧ kk % 256 < 256 := by omega
      have hkw : IntKind.u8.wrap kk = kk % 256 := by rw [IntKind.wrap_u8]
      go_wp2_with (at_builtin; (try rw [hkw]); refine wpList_append_row rfl _ _ rfl w.heap.size _ _ P [kk % 256] rfl (HO1.out.alloc _) rfl (row_new1 _ _ hby) (by have := HFit.out; simp; omega) (by have := HB1.out.size; simp; omega) ?_)
      intro u1 w1 ho1 hg1
      have hbA : Below w.heap.size w (V.alloc (.cells #[.int .u8 (kk % 256)] 5)) := HB1.out.alloc HB1.out.size _
      have HB2 := hide ((HO1.out.alloc _).grown_below hbA hg1 (Nat.le_refl _) hbA.size)
      have HO2 := hide ho1
      have HBL2 := hide ((kl_blk (kl_alloc V (.cells #[.int .u8 (kk % 256)] 5)) HBL.out).kept hg1 (fun e => Nat.lt_irrefl _ (HNE.out g e.symm)))
      have HLen := hide (show (P ++ [kk % 256]).length = P.length + 1 by simp)
      clear ho1 hg1 hbA HO1 HB1 HBL q0 hkw hby HNE
      have q0 : w1.cell? ⟨g, 0, none⟩ = some (.int .i64 kk) := HBL2.out.cell 0
      by_cases hkk : kk = 1 ∨ kk = 3 ∨ kk = 4
      · have q1 : w1.cell? ⟨g, 1, none⟩ = some (.int .i64 nn) := HBL2.out.cell 1
        have hlenF := HFit.out
        have hPD : packD ⟨kk, nn, ⟨no, kind, links, size, t, es, rs⟩⟩ = [kk % 256] ++ n8 nn := packD_1 hkk
        rw [hPD] at HS
        have HFn := hide (show (P ++ [kk % 256]).length ≤ 140737488355000 by rw [HLen.out]; have := HFit.out; omega)
        clear hPD hlenF
        rcases hkk with rfl | rfl | rfl
        all_goals
          go_wp2_with fail
          refine (number_any w1 u1 _ nn HO2.out.row HFn.out).mono ?_
          rintro e w2 ⟨u2, rfl, ho2, hb2⟩
          have HO3 := hide (ho2.mono HB2.out.size)
          have HB3 := hide (HB2.out.trans (hb2.mono HB2.out.size))
          clear ho2 hb2
          go_wp2
          exact ⟨⟨k + 1, by omega, by go_num, by rw [HS.out, ← List.append_assoc]; exact HO3, HB3⟩, by simp [intOf]; omega⟩
      · by_cases hk2 : kk = 2
        · subst hk2
          have hPD : packD ⟨2, nn, ⟨no, kind, links, size, t, es, rs⟩⟩ = [2 % 256] ++ packI ⟨no, kind, links, size, t, es, rs⟩ := packD_2 rfl
          rw [hPD] at HS HFit
          clear hPD hkk
          have q2 : w1.cell? ⟨g, 2, none⟩ = some (.int .i64 no) := HBL2.out.cell 2
          have q3 : w1.cell? ⟨g, 3, none⟩ = some (.int .i64 kind) := HBL2.out.cell 3
          have q4 : w1.cell? ⟨g, 4, none⟩ = some (.int .i64 links) := HBL2.out.cell 4
          have q5 : w1.cell? ⟨g, 5, none⟩ = some (.int .i64 size) := HBL2.out.cell 5
          have q6 : w1.cell? ⟨g, 6, none⟩ = some (.string t) := HBL2.out.cell 6
          have q7 : w1.cell? ⟨g, 7, none⟩ = some (.slice ea le ec) := HBL2.out.cell 7
          have q8 : w1.cell? ⟨g, 8, none⟩ = some (.slice ra lr rc) := HBL2.out.cell 8
          have hB3 := kl_alloc w1 (.cells #[.int .i64 no, .int .i64 kind, .int .i64 links, .int .i64 size, .string t, .slice ea le ec, .slice ra lr rc] 36)
          have hBl := Blk.new w1 #[.int .i64 no, .int .i64 kind, .int .i64 links, .int .i64 size, .string t, .slice ea le ec, .slice ra lr rc] 36
          have HB3 := hide (kl_step hB3 HB2.out)
          have HO3 := hide (HO2.out.kept hB3)
          have HBI := hide hBl
          clear hB3 hBl
          go_upto_region 14 with fail
          generalize w1.alloc (.cells #[.int .i64 no, .int .i64 kind, .int .i64 links, .int .i64 size, .string t, .slice ea le ec, .slice ra lr rc] 36) = V2 at *
          generalize w1.heap.size = gi at *
          clear q0 q2 q3 q4 q5 q6 q7 q8 HO2 HB2 HBL2
          obtain ⟨L0, hL0⟩ : ∃ l, l = P ++ [(2 : Int) % 256] := ⟨_, rfl⟩
          rw [← hL0] at HO3 HLen
          have HFit2 := hide (show L0.length + (packI ⟨no, kind, links, size, t, es, rs⟩).length ≤ 1000000 by have h1 := HFit.out; rw [List.length_append] at h1; rw [hL0, List.length_append]; omega)
          have HL0 := hide hL0
          clear hL0
          have HR0 := hide (fun w' (hb : Below V2.heap.size V2 w') => HO3.out.row.below hb)
          have c0 : V2.cell? ⟨gi, 0, none⟩ = some (.int .i64 no) := HBI.out.cell 0
          have c1 : V2.cell? ⟨gi, 1, none⟩ = some (.int .i64 kind) := HBI.out.cell 1
          have c2 : V2.cell? ⟨gi, 2, none⟩ = some (.int .i64 links) := HBI.out.cell 2
          have c3 : V2.cell? ⟨gi, 3, none⟩ = some (.int .i64 size) := HBI.out.cell 3
          have HS4 : Hid (Four V2 gi no kind links size V2) := hide ⟨⟨c0, c1, c2, c3⟩, Below.refl _ _⟩
          have hF : L0.length ≤ 1000000 := by have := HFit2.out; omega
          have HF0 := hide (show L0.length ≤ 140737488355000 by omega)
          have HF1 := hide (show (L0 ++ n8 no).length ≤ 140737488355000 by rw [List.length_append, n8_length]; omega)
          have HF2 := hide (show ((L0 ++ n8 no) ++ n8 kind).length ≤ 140737488355000 by simp only [List.length_append, n8_length]; omega)
          have HF3 := hide (show (((L0 ++ n8 no) ++ n8 kind) ++ n8 links).length ≤ 140737488355000 by simp only [List.length_append, n8_length]; omega)
          clear hF
          go_wp2_with fail
          go_region_held3 (fun w' => (w'.cell? ⟨gi, 0, none⟩ = some (.int .i64 no) ∧ w'.cell? ⟨gi, 1, none⟩ = some (.int .i64 kind) ∧ w'.cell? ⟨gi, 2, none⟩ = some (.int .i64 links) ∧ w'.cell? ⟨gi, 3, none⟩ = some (.int .i64 size)) ∧ Below V2.heap.size V2 w')
            (first
              | assumption
              | exact Four.step (kl_drew _) HS4.out
              | exact Four.step hb4 (show Four V2 gi no kind links size _ by assumption)
              | exact Four.step hb3 (show Four V2 gi no kind links size _ by assumption)
              | exact Four.step hb2 (show Four V2 gi no kind links size _ by assumption)
              | exact Four.step hb1 (show Four V2 gi no kind links size _ by assumption)
              | fail)
            (first
              | (go_at_call_of 26 u1; refine (number_any _ _ L0 no (HR0.out _ (by first | exact (show Four V2 gi no kind links size _ by assumption).2 | exact kl_drew _)) HF0.out).mono ?_; rintro e x1 ⟨y1, rfl, ho1, hb1⟩)
              | (go_at_call_of 26 y1; refine (number_any _ _ _ kind ho1.row HF1.out).mono ?_; rintro e x2 ⟨y2, rfl, ho2, hb2⟩)
              | (go_at_call_of 26 y2; refine (number_any _ _ _ links ho2.row HF2.out).mono ?_; rintro e x3 ⟨y3, rfl, ho3, hb3⟩)
              | (go_at_call_of 26 y3; refine (number_any _ _ _ size ho3.row HF3.out).mono ?_; rintro e x4 ⟨y4, rfl, ho4, hb4⟩)
              | fail)
          have hX : Four V2 gi no kind links size x4 := by assumption
          have HBI4 := hide (kl_blk hX.2 HBI.out)
          have HB4 := hide (HB3.out.trans (hX.2.mono HB3.out.size))
          have HO4 := hide (ho4.mono (Nat.le_trans HB3.out.size (show V2.drew.heap.size ≤ x3.heap.size from Nat.le_trans (Nat.le_trans hb1.size hb2.size) hb3.size)))
          have hPI := packI_length ⟨no, kind, links, size, t, es, rs⟩
          dsimp only at hPI
          obtain ⟨L1, hL1⟩ : ∃ l, l = (((L0 ++ n8 no) ++ n8 kind) ++ n8 links) ++ n8 size := ⟨_, rfl⟩
          have hF1 : L1.length = L0.length + 32 := by rw [hL1]; simp only [List.length_append, n8_length]
          rw [← hL1] at HO4
          have HL1 := hide hL1
          have hFit2 := HFit2.out
          have HTot := hide (show L1.length + (4 + t.size) + 4 + (es.flatMap packE).length + 4 + (rs.flatMap packR).length ≤ 1000000 by omega)
          clear hL1 hX ho1 ho2 ho3 ho4 hb1 hb2 hb3 hb4 HBI HB3 HO3 HR0 HS4 HF0 HF1 HF2 HF3 c0 c1 c2 c3 hPI hF1 hFit2
          have c4 : x4.cell? ⟨gi, 4, none⟩ = some (.string t) := HBI4.out.cell 4
          have c5 : x4.cell? ⟨gi, 5, none⟩ = some (.slice ea le ec) := HBI4.out.cell 5
          have HS2 : Hid (TwoC x4 gi (.string t) (.slice ea le ec) x4) := hide ⟨⟨c4, c5⟩, Below.refl _ _⟩
          have HR4 := hide (fun w' (hb : Below x4.heap.size x4 w') => HO4.out.row.below hb)
          have HWL := hide (show IntKind.u64.wrap (le : Int) = le by rw [IntKind.wrap_u64]; omega)
          have HWR := hide (show IntKind.u64.wrap (lr : Int) = lr by rw [IntKind.wrap_u64]; omega)
          have HG1 := hide (show L1.length + t.size ≤ 140737488355000 by have := HTot.out; omega)
          have HG2 := hide (show (L1 ++ (low t.size 4 ++ bytesIn t)).length ≤ 140737488355000 by have := HTot.out; simp only [List.length_append, low_length, bytesIn_length]; omega)
          have hle0 : 0 ≤ (le : Int) := by omega
          have hle1 : (le : Int) < 18446744073709551616 := by omega
          have hlr0 : 0 ≤ (lr : Int) := by omega
          have hlr1 : (lr : Int) < 18446744073709551616 := by omega
          have HLI := hide (And.intro (And.intro hle0 hle1) (And.intro hlr0 hlr1))
          clear hle0 hle1 hlr0 hlr1
          go_wp2_with fail
          go_region_held3 (fun w' => (w'.cell? ⟨gi, 4, none⟩ = some (.string t) ∧ w'.cell? ⟨gi, 5, none⟩ = some (.slice ea le ec)) ∧ Below x4.heap.size x4 w')
            (first
              | assumption
              | exact TwoC.step (kl_drew _) HS2.out
              | exact TwoC.step hb6 (show TwoC x4 gi (.string t) (.slice ea le ec) _ by assumption)
              | exact TwoC.step hb5 (show TwoC x4 gi (.string t) (.slice ea le ec) _ by assumption)
              | fail)
            (first
              | (go_at_call_of 28 y4; refine (refPutText_any _ _ L1 t (HR4.out _ (by first | exact (show TwoC x4 gi (.string t) (.slice ea le ec) _ by assumption).2 | exact kl_drew _)) HG1.out).mono ?_; rintro e x5 ⟨y5, rfl, ho5, hb5⟩)
              | (go_at_call_of 27 y5; (try rw [HWL.out]); refine (refPut_any _ _ _ le 4 ho5.row HG2.out HLI.out.1.1 HLI.out.1.2).mono ?_; rintro e x6 ⟨y6, rfl, ho6, hb6⟩)
              | fail)
          all_goals
            have hX : TwoC x4 gi (.string t) (.slice ea le ec) x6 := by assumption
            have HBI6 := hide (kl_blk hX.2 HBI4.out)
            have HB6 := hide (HB4.out.trans (hX.2.mono HB4.out.size))
            have HO6 := hide (ho6.mono (Nat.le_trans HB4.out.size (show x4.drew.heap.size ≤ x5.heap.size from hb5.size)))
            obtain ⟨L2, hL2⟩ : ∃ l, l = (L1 ++ (low t.size 4 ++ bytesIn t)) ++ low (le : Int) (held 4) := ⟨_, rfl⟩
            have hF2 : L2.length = L1.length + (4 + t.size) + 4 := by rw [hL2]; simp only [List.length_append, low_length, bytesIn_length]; rfl
            rw [← hL2] at HO6
            have HL2 := hide hL2
            have HT2 := hide (show L2.length + (es.flatMap packE).length + 4 + (rs.flatMap packR).length ≤ 1000000 by have := HTot.out; omega)
            clear hL2 hF2 hX ho5 ho6 hb5 hb6 HBI4 HB4 HO4 HS2 HR4 HG1 HG2 c4 c5
            go_wp2
            go_loopw [3, 7] (fun b j wr => ∃ m : Nat, m ≤ le ∧ j = .int .i64 m ∧ Hid (Own w.heap.size wr b (L2 ++ (es.take m).flatMap packE)) ∧ Hid (Below x6.heap.size x6 wr)) (fun _ j _ => le - (intOf j).toNat)
            case atStart => exact ⟨0, Nat.zero_le _, rfl, hide (by simpa using HO6.out), hide (Below.refl _ _)⟩
            case round =>
              obtain ⟨m, hm, rfl, HOm, HBm⟩ := hrel
              have d5 : wr.cell? ⟨gi, 5, none⟩ = some (.slice ea le ec) := (kl_blk HBm.out HBI6.out).cell 5
              have HBw := hide (HB6.out.trans (HBm.out.mono HB6.out.size))
              by_cases hmt : m < le
              · have hmt' : (m : Int) < le := by omega
                have hmx : m < es.length := by rw [← HLE.out]; exact hmt
                obtain ⟨b2, o2, hbs2, hid2, e0, e1⟩ := (HRE.out.below HBw.out).idx m hmx
                have hse := flat_take packE hmx
                have hsu := flat_upto packE es (m + 1)
                generalize es.getD m default = y at *
                obtain ⟨ys, yn⟩ := y
                dsimp only at e0 e1
                rw [hse, List.length_append, packE_length] at hsu
                dsimp only at hsu
                obtain ⟨Lm, hLm⟩ : ∃ l, l = L2 ++ (es.take m).flatMap packE := ⟨_, rfl⟩
                rw [← hLm] at HOm
                have hLl : Lm.length + ys.size + 12 ≤ 1000000 := by have := HT2.out; rw [hLm, List.length_append]; omega
                have HNx := hide (show L2 ++ (es.take (m + 1)).flatMap packE = (Lm ++ (low ys.size 4 ++ bytesIn ys)) ++ n8 yn by rw [hse, hLm]; simp only [packE, packT, n4, List.append_assoc])
                have HSE : Hid (EntC wr gi (.slice ea le ec) b2 o2 ys yn wr) := hide ⟨⟨d5, e0, e1⟩, Below.refl _ _⟩
                have HRm := hide (fun w' (hb : Below wr.heap.size wr w') => HOm.out.row.below hb)
                have HG1 := hide (show Lm.length + ys.size ≤ 140737488355000 by omega)
                have HG2 := hide (show (Lm ++ (low ys.size 4 ++ bytesIn ys)).length ≤ 140737488355000 by simp only [List.length_append, low_length, bytesIn_length]; omega)
                clear hLm hLl hsu hse
                go_wp2_with fail
                go_region_held3 (fun w' => (w'.cell? ⟨gi, 5, none⟩ = some (.slice ea le ec) ∧ w'.cell? ⟨b2, o2, none⟩ = some (.string ys) ∧ w'.cell? ⟨b2, o2 + 1, none⟩ = some (.int .i64 yn)) ∧ Below wr.heap.size wr w')
                  (first
                    | assumption
                    | exact EntC.step (kl_drew _) HSE.out
                    | exact EntC.step hb8 (show EntC wr gi (.slice ea le ec) b2 o2 ys yn _ by assumption)
                    | exact EntC.step hb7 (show EntC wr gi (.slice ea le ec) b2 o2 ys yn _ by assumption)
                    | fail)
                  (first
                    | (go_at_call_of 28 u3; refine (refPutText_any _ _ Lm ys (HRm.out _ (by first | exact (show EntC wr gi (.slice ea le ec) b2 o2 ys yn _ by assumption).2 | exact kl_drew _)) HG1.out).mono ?_; rintro e x7 ⟨y7, rfl, ho7, hb7⟩)
                    | (go_at_call_of 26 y7; refine (number_any _ _ _ yn ho7.row HG2.out).mono ?_; rintro e x8 ⟨y8, rfl, ho8, hb8⟩)
                    | fail)
                all_goals
                  have hX : EntC wr gi (.slice ea le ec) b2 o2 ys yn x8 := by assumption
                  have HB8 := hide (HBm.out.trans (hX.2.mono HBm.out.size))
                  have HO8 := hide (ho8.mono (Nat.le_trans HBw.out.size (show wr.drew.heap.size ≤ x7.heap.size from hb7.size)))
                  clear hX ho7 ho8 hb7 hb8
                  go_wp2
                  exact ⟨⟨m + 1, by omega, by go_num, hide (by rw [HNx.out]; exact HO8.out), HB8⟩, by simp [intOf]; omega⟩
              · obtain rfl : m = le := by omega
                have HEs := hide (show es.take m = es by rw [HLE.out]; exact List.take_length)
                rw [HEs.out] at HOm
                have d6 : wr.cell? ⟨gi, 6, none⟩ = some (.slice ra lr rc) := (kl_blk HBm.out HBI6.out).cell 6
                have HBI9 := hide (kl_blk HBm.out HBI6.out)
                have HG3 := hide (show (L2 ++ es.flatMap packE).length ≤ 140737488355000 by have := HT2.out; rw [List.length_append]; omega)
                go_wp2_with fail
                (try rw [HWR.out])
                refine (refPut_any wr u3 _ lr 4 HOm.out.row HG3.out HLI.out.2.1 HLI.out.2.2).mono ?_
                rintro e x9 ⟨y9, rfl, ho9, hb9⟩
                have HBI10 := hide (kl_blk hb9 HBI9.out)
                have HB10 := hide (HBw.out.trans (hb9.mono HBw.out.size))
                obtain ⟨L3, hL3⟩ : ∃ l, l = (L2 ++ es.flatMap packE) ++ low (lr : Int) (held 4) := ⟨_, rfl⟩
                have hF3 : L3.length = L2.length + (es.flatMap packE).length + 4 := by rw [hL3]; simp only [List.length_append, low_length]; rfl
                rw [← hL3] at ho9
                have HO10 := hide (ho9.mono HBw.out.size)
                have HL3 := hide hL3
                have HT3 := hide (show L3.length + (rs.flatMap packR).length ≤ 1000000 by have := HT2.out; omega)
                clear hL3 hF3 ho9 hb9 d5 d6 HBI9 HOm HBm HBw HO6 HB6 HBI6 HG3
                go_wp2
                go_loopw [3, 8] (fun b j wr => ∃ n : Nat, n ≤ lr ∧ j = .int .i64 n ∧ Hid (Own w.heap.size wr b (L3 ++ (rs.take n).flatMap packR)) ∧ Hid (Below x9.heap.size x9 wr)) (fun _ j _ => lr - (intOf j).toNat)
                case atStart => exact ⟨0, Nat.zero_le _, rfl, hide (by simpa using HO10.out), hide (Below.refl _ _)⟩
                case round =>
                  obtain ⟨n, hn, rfl, HOn, HBn⟩ := hrel
                  have d6 : wr.cell? ⟨gi, 6, none⟩ = some (.slice ra lr rc) := (kl_blk HBn.out HBI10.out).cell 6
                  have HBw := hide (HB10.out.trans (HBn.out.mono HB10.out.size))
                  by_cases hnt : n < lr
                  · have hnt' : (n : Int) < lr := by omega
                    have hnx : n < rs.length := by rw [← HLR.out]; exact hnt
                    obtain ⟨b3, o3, hbs3, hid3, r0, r1, r2⟩ := (HRR.out.below HBw.out).idx n hnx
                    have hse := flat_take packR hnx
                    have hsu := flat_upto packR rs (n + 1)
                    generalize rs.getD n default = y at *
                    obtain ⟨rf, rA, rn⟩ := y
                    dsimp only at r0 r1 r2
                    rw [hse, List.length_append, packR_length] at hsu
                    obtain ⟨Ln, hLn⟩ : ∃ l, l = L3 ++ (rs.take n).flatMap packR := ⟨_, rfl⟩
                    rw [← hLn] at HOn
                    have hLl : Ln.length + 24 ≤ 1000000 := by have := HT3.out; rw [hLn, List.length_append]; omega
                    have HNx := hide (show L3 ++ (rs.take (n + 1)).flatMap packR = ((Ln ++ n8 rf) ++ n8 rA) ++ n8 rn by rw [hse, hLn]; simp only [packR, List.append_assoc])
                    have HSR : Hid (RunC wr gi (.slice ra lr rc) b3 o3 ⟨rf, rA, rn⟩ wr) := hide ⟨⟨d6, r0, r1, r2⟩, Below.refl _ _⟩
                    have HRn := hide (fun w' (hb : Below wr.heap.size wr w') => HOn.out.row.below hb)
                    have HG1 := hide (show Ln.length ≤ 140737488355000 by omega)
                    have HG2 := hide (show (Ln ++ n8 rf).length ≤ 140737488355000 by simp only [List.length_append, n8_length]; omega)
                    have HG3 := hide (show ((Ln ++ n8 rf) ++ n8 rA).length ≤ 140737488355000 by simp only [List.length_append, n8_length]; omega)
                    clear hLn hLl hsu hse
                    go_wp2_with fail
                    go_region_held3 (fun w' => (w'.cell? ⟨gi, 6, none⟩ = some (.slice ra lr rc) ∧ w'.cell? ⟨b3, o3, none⟩ = some (.int .i64 rf) ∧ w'.cell? ⟨b3, o3 + 1, none⟩ = some (.int .i64 rA) ∧ w'.cell? ⟨b3, o3 + 2, none⟩ = some (.int .i64 rn)) ∧ Below wr.heap.size wr w')
                      (first
                        | assumption
                        | exact RunC.step (kl_drew _) HSR.out
                        | exact RunC.step hb13 (show RunC wr gi (.slice ra lr rc) b3 o3 ⟨rf, rA, rn⟩ _ by assumption)
                        | exact RunC.step hb12 (show RunC wr gi (.slice ra lr rc) b3 o3 ⟨rf, rA, rn⟩ _ by assumption)
                        | exact RunC.step hb11 (show RunC wr gi (.slice ra lr rc) b3 o3 ⟨rf, rA, rn⟩ _ by assumption)
                        | fail)
                      (first
                        | (go_at_call_of 26 u3; refine (number_any _ _ Ln rf (HRn.out _ (by first | exact (show RunC wr gi (.slice ra lr rc) b3 o3 ⟨rf, rA, rn⟩ _ by assumption).2 | exact kl_drew _)) HG1.out).mono ?_; rintro e x11 ⟨y11, rfl, ho11, hb11⟩)
                        | (go_at_call_of 26 y11; refine (number_any _ _ _ rA ho11.row HG2.out).mono ?_; rintro e x12 ⟨y12, rfl, ho12, hb12⟩)
                        | (go_at_call_of 26 y12; refine (number_any _ _ _ rn ho12.row HG3.out).mono ?_; rintro e x13 ⟨y13, rfl, ho13, hb13⟩)
                        | fail)
                    all_goals
                      have hX : RunC wr gi (.slice ra lr rc) b3 o3 ⟨rf, rA, rn⟩ x13 := by assumption
                      have HB13 := hide (HBn.out.trans (hX.2.mono HBn.out.size))
                      have HO13 := hide (ho13.mono (Nat.le_trans HBw.out.size (show wr.drew.heap.size ≤ x12.heap.size from Nat.le_trans hb11.size hb12.size)))
                      clear hX ho11 ho12 ho13 hb11 hb12 hb13
                      go_wp2
                      exact ⟨⟨n + 1, by omega, by go_num, hide (by rw [HNx.out]; exact HO13.out), HB13⟩, by simp [intOf]; omega⟩
                  · obtain rfl : n = lr := by omega
                    have HRs := hide (show rs.take n = rs by rw [HLR.out]; exact List.take_length)
                    rw [HRs.out] at HOn
                    have HE := hide (show P ++ ([2 % 256] ++ packI ⟨no, kind, links, size, t, es, rs⟩) = L3 ++ rs.flatMap packR by
                      rw [HL3.out, HL2.out, HL1.out, HL0.out]
                      simp only [packI, packT, n4, List.append_assoc, ← HLE.out, ← HLR.out]
                      rfl)
                    go_wp2
                    exact ⟨⟨k + 1, by omega, by go_num, hide (by rw [HS.out, HE.out]; exact HOn.out), HBw⟩, by simp [intOf]; omega⟩
        · have hPD : packD ⟨kk, nn, ⟨no, kind, links, size, t, es, rs⟩⟩ = [kk % 256] := packD_0 hkk hk2
          rw [hPD] at HS
          have h1 : (kk == 1) = false := by simp; omega
          have h2 : (kk == 2) = false := by simp; omega
          have h3 : (kk == 3) = false := by simp; omega
          have h4 : (kk == 4) = false := by simp; omega
          clear hPD hkk hk2
          go_wp2
          exact ⟨⟨k + 1, by omega, by go_num, by rw [HS.out]; exact HO2, HB2⟩, by simp [intOf]; omega⟩
    · obtain rfl : k = len := by omega
      have HE := hide (show xs.take k = xs by rw [List.take_of_length_le (by rw [HL.out]; exact Nat.le_refl _)])
      go_wp2
      go_ret
      exact ⟨_, rfl, by have := HO.out; rw [HE.out] at this; exact this, HB.out⟩
end Go.Proofs.Ytgkmgpjhpplkiaa
