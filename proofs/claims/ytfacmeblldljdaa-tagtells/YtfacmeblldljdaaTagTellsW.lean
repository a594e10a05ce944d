/-
  The walk of garretlaw06.TagTells.
-/
import Derived.Test.YtfacmeblldljdaaAwake06
import Derived.Test.YtfacmeblldljdaaRefTagR
import Derived.Test.YtfacmeblldljdaaTagO
import Derived.Test.YtfacmeblldljdaaHelp
import Derived.OpenShut
namespace Go.Proofs.Ytfacmeblldljdaa
open Go.RowKit
set_option linter.unusedVariables false

/-- A tag's three cells. -/
theorem Blk.tag {w : World} {g : Nat} {a b s : Int} {t : TypeId} (h : Blk w g (tcells a b s) t) : w.cell? ⟨g, 0, none⟩ = some (.int .i64 a) ∧ w.cell? ⟨g, 1, none⟩ = some (.int .i64 b) ∧ w.cell? ⟨g, 2, none⟩ = some (.int .u32 s) :=
  ⟨(h.cell 0).trans rfl, (h.cell 1).trans rfl, (h.cell 2).trans rfl⟩

set_option maxHeartbeats 4000000 in
theorem TagTells_walk (no index : Int) (dv : Value) (ds : List Int) (a b s : Int) (bv0 : Value) (xs : List Int) (w : World)
    (w0 : (Lit.int .i64 no).wf = true) (w1 : (Lit.int .i64 index).wf = true) (w2 : IRow .u8 w dv ds) (w3 : TagOk a b s) (w4 : IRow .u8 w bv0 xs) :
    Calls Try.prog 3 #[.int .i64 no, .int .i64 index, dv, .agg (tcells a b s), bv0] w fun e w' => e = .returned (.bool true) ∧ Below w.heap.size w w' := by
  have hd := w2.bytes
  have hr := w4.bytes
  obtain ⟨aod, capd, hvd⟩ := hd.of_len
  obtain ⟨ao, cap, hv⟩ := hr.of_len
  have hs := w3.sum
  have hb0 : Below w.heap.size w (w.alloc (.cells (tcells a b s) 25)) := (Below.refl _ _).alloc (Nat.le_refl _) _
  by_cases hbig : (500 : Int) < ds.length
  · subst hvd hv
    generalize ds.length = n at *
    unfold tcells at hb0 ⊢
    clear w2 w4 hd hr
    go_enter Try.func3, Try.ntmps3
    go_wp2_with fail
    refine (awake_any _).mono ?_
    rintro e w5 ⟨rfl, hb5⟩
    go_wp2
    go_ret
    exact ⟨rfl, hb0.trans (hb5.mono hb0.size)⟩
  · by_cases hbig2 : (100 : Int) < xs.length
    · subst hvd hv
      have hbig' : (ds.length : Int) ≤ 500 := by omega
      generalize ds.length = n at *
      generalize xs.length = m at *
      unfold tcells at hb0 ⊢
      clear w2 w4 hd hr
      go_enter Try.func3, Try.ntmps3
      go_wp2_with fail
      refine (awake_any _).mono ?_
      rintro e w5 ⟨rfl, hb5⟩
      go_wp2
      go_ret
      exact ⟨rfl, hb0.trans (hb5.mono hb0.size)⟩
    · have hl1 : (ds.length : Int) ≤ 500 := by omega
      have hl2 : (xs.length : Int) ≤ 100 := by omega
      subst hvd hv
      obtain ⟨r, hwr⟩ : ∃ r, writeS a b s = r := ⟨_, rfl⟩
      obtain ⟨wl, we⟩ := r
      have HW := hide hwr
      obtain ⟨t, ht⟩ : ∃ t, readS xs = t := ⟨_, rfl⟩
      obtain ⟨⟨t0, t1, t2⟩, t3⟩ := t
      have HT := hide ht
      have HD := hide hd
      have HR := hide hr
      generalize ds.length = n at *
      generalize xs.length = m at *
      clear w2 w4 hd hr hwr ht
      have hk0 : Blk (w.alloc (.cells (tcells a b s) 25)) w.heap.size (tcells a b s) 25 := Blk.new w _ _
      have HK0 := hide hk0
      clear hk0
      show Calls Try.prog 3 #[.int .i64 no, .int .i64 index, .slice aod n capd, .agg #[.int .i64 a, .int .i64 b, .int .u32 s], .slice ao m cap] w _
      go_enter Try.func3, Try.ntmps3
      go_wp2_with fail
      refine (Write_any (w.alloc (.cells (tcells a b s) 25)) a b s hs).mono ?_
      rintro e wa ⟨x, rfl, hxa, hba⟩
      rw [HW.out] at hxa ⊢
      have HXA := hide hxa
      have hka := (HK0.out.below hba HK0.out.lt)
      obtain ⟨ca0, ca1, ca2⟩ := hka.tag
      have hB1 : Below w.heap.size w wa := hb0.trans (hba.mono hb0.size)
      clear hxa hba hka
      go_wp2_with fail
      refine (RWrite_any wa a b s hs).mono ?_
      rintro e wb ⟨y, rfl, hyb, hbb⟩
      rw [HW.out] at hyb ⊢
      have hB2 : Below w.heap.size w wb := hB1.trans (hbb.mono hB1.size)
      have HXB := hide (HXA.out.kept hbb)
      have HYB := hide hyb
      clear HXA hyb hbb ca0 ca1 ca2
      go_wp2_with fail
      refine (Read_any wb _ xs (HR.out.below hB2)).mono ?_
      rintro e wc ⟨rfl, hbc⟩
      rw [HT.out]
      have hbc' : Below wb.heap.size wb (wc.alloc (.cells (tcells t0 t1 t2) 25)) := hbc.alloc hbc.size _
      have hB3 : Below w.heap.size w (wc.alloc (.cells (tcells t0 t1 t2) 25)) := hB2.trans (hbc'.mono hB2.size)
      have HXC := hide (HXB.out.kept hbc')
      have HYC := hide (HYB.out.kept hbc')
      have HKC := hide (show Blk (wc.alloc (.cells (tcells t0 t1 t2) 25)) wc.heap.size (tcells t0 t1 t2) 25 from Blk.new wc _ _)
      clear hbc hbc' HXB HYB
      unfold tcells
      go_wp2_with fail
      refine (RRead_any (wc.alloc (.cells (tcells t0 t1 t2) 25)) _ xs (HR.out.below hB3)).mono ?_
      rintro e wd ⟨rfl, hbd⟩
      rw [HT.out]
      have hbd' : Below (wc.alloc (.cells (tcells t0 t1 t2) 25)).heap.size (wc.alloc (.cells (tcells t0 t1 t2) 25)) (wd.alloc (.cells (tcells t0 t1 t2) 25)) := hbd.alloc hbd.size _
      have hB4 : Below w.heap.size w (wd.alloc (.cells (tcells t0 t1 t2) 25)) := hB3.trans (hbd'.mono hB3.size)
      have HXD := hide (HXC.out.kept hbd')
      have HYD := hide (HYC.out.kept hbd')
      have HUD := hide (HKC.out.below hbd' HKC.out.lt)
      have HVD := hide (show Blk (wd.alloc (.cells (tcells t0 t1 t2) 25)) wd.heap.size (tcells t0 t1 t2) 25 from Blk.new wd _ _)
      clear hbd hbd' HXC HYC HKC
      unfold tcells
      go_wp2_with fail
      refine (awake_any (wd.alloc (.cells (tcells t0 t1 t2) 25))).mono ?_
      rintro e we1 ⟨rfl, hbe⟩
      have hB5 : Below w.heap.size w we1 := hB4.trans (hbe.mono hB4.size)
      have HXE := hide (HXD.out.kept hbe)
      have HYE := hide (HYD.out.kept hbe)
      have HUE := hide (HUD.out.below hbe HUD.out.lt)
      have HVE := hide (HVD.out.below hbe HVD.out.lt)
      clear hbe HXD HYD HUD HVD
      go_wp2_with fail
      refine (TOf_any we1 _ ds no index (HD.out.below hB5)).mono ?_
      rintro e wf ⟨rfl, hbf⟩
      have hB6 : Below w.heap.size w wf := hB5.trans (hbf.mono hB5.size)
      have HXF := hide (HXE.out.kept hbf)
      have HYF := hide (HYE.out.kept hbf)
      have HUF := hide (HUE.out.below hbf HUE.out.lt)
      have HVF := hide (HVE.out.below hbf HVE.out.lt)
      clear hbf HXE HYE HUE HVE
      go_wp2_with fail
      refine (RTOf_any wf _ ds no index (HD.out.below hB6)).mono ?_
      rintro e wg ⟨rfl, hbg⟩
      have hB7 : Below w.heap.size w wg := hB6.trans (hbg.mono hB6.size)
      have HXG := hide (HXF.out.kept hbg)
      have HYG := hide (HYF.out.kept hbg)
      obtain ⟨u0, u1, u2⟩ := (HUF.out.below hbg HUF.out.lt).tag
      obtain ⟨v0, v1, v2⟩ := (HVF.out.below hbg HVF.out.lt).tag
      generalize sumS ds = sd at *
      unfold tcells
      clear hbg HXF HYF HUF HVF
      go_wp2_with fail
      refine (Bytes_any wg x y wl wl HXG.out.row HYG.out.row).mono ?_
      rintro e wh ⟨rfl, rfl⟩
      rw [decide_eq_true (rfl : wl = wl)]
      go_wp2
      go_ret
      exact ⟨rfl, hB7⟩
end Go.Proofs.Ytfacmeblldljdaa
