/-
  The walk of garretlaw06.TagBack.
-/
import Derived.Test.YtfacmeblldljdaaAwake06
import Derived.Test.YtfacmeblldljdaaRefSum
import Derived.Test.YtfacmeblldljdaaTagR
import Derived.Test.YtfacmeblldljdaaDrawn
import Derived.Deep.RegionHeld3
import Derived.OpenShut
namespace Go.Proofs.Ytfacmeblldljdaa
open Go.RowKit
set_option linter.unusedVariables false

theorem Blk.tag6 {w : World} {g : Nat} {a b s : Int} {t : TypeId} (h : Blk w g (tcells a b s) t) : w.cell? ⟨g, 0, none⟩ = some (.int .i64 a) ∧ w.cell? ⟨g, 1, none⟩ = some (.int .i64 b) ∧ w.cell? ⟨g, 2, none⟩ = some (.int .u32 s) :=
  ⟨(h.cell 0).trans rfl, (h.cell 1).trans rfl, (h.cell 2).trans rfl⟩
theorem made_bytes6 (n : Nat) : madeCells (Value.int .u8 0).cells n = (bv (List.replicate n 0)).toArray := by
  apply Array.ext'
  simp [madeCells, bv, Value.cells]
  apply List.ext_getElem
  · simp
  · intro i h1 h2
    simp [Nat.mod_one]
theorem Blk.bytes6 {w : World} {g : Nat} {xs : List Int} {n : Nat} (h : Blk w g (bv xs).toArray 5) (hn : xs.length = n) (hm : n ≤ maxLen) (hb : Bys xs) : Row w (.slice (some ⟨g, 0, none⟩) n n) xs := by
  subst hn
  refine Row.mk (off := 0) (Nat.le_refl _) hm (fun i hi => ?_) hb
  rw [Nat.zero_add, h.cell i, List.getElem?_toArray, bv_at hi]

theorem run_make_bytes6 (w : World) (n : Nat) (hn : n ≤ 65536) : (Instr.makeSlice 22 (.int .i64 n) (.int .i64 n)).run Try.prog w = .ok (.slice (some ⟨w.heap.size, 0, none⟩) n n) (w.alloc (.cells (bv (List.replicate n 0)).toArray 5)) := by
  obtain ⟨i0, hi, hz0, hz1, hz2⟩ := info_parts infoByte
  have := run_makeSlice (P := Try.prog) (w := w) 22 5 i0 (.int .u8 0) Try.underlying22 hi hz0 .i64 .i64 (n : Int) (n : Int) (by omega) (by omega) (by rw [hz1]; simp; omega) (by rw [hz2]; omega) (by omega)
  rw [hz1, made_bytes6] at this
  simpa using this

theorem run_field_sum (A B s : Int) (w : World) : (Instr.field 25 (.agg #[.int .i64 A, .int .i64 B, .int .u32 s]) 2).run Try.prog w = .ok (.int .u32 s) w := by
  simp [Instr.field, go_sem, asAgg]
/-- What the last line reads. -/
theorem BackS_of {g h : Nat} {A B s C D t : Int} {T U : TypeId} {wz w' : World} (k1 : Blk wz g #[.int .i64 A, .int .i64 B, .int .u32 s] T) (k2 : Blk wz h #[.int .i64 C, .int .i64 D, .int .u32 t] U) (hb : Below wz.heap.size wz w') :
    ((w'.cell? ⟨g, 0, none⟩ = some (.int .i64 A) ∧ w'.cell? ⟨g, 1, none⟩ = some (.int .i64 B) ∧ w'.cell? ⟨g, 2, none⟩ = some (.int .u32 s)) ∧
    (w'.cell? ⟨h, 0, none⟩ = some (.int .i64 C) ∧ w'.cell? ⟨h, 1, none⟩ = some (.int .i64 D) ∧ w'.cell? ⟨h, 2, none⟩ = some (.int .u32 t))) ∧ Below wz.heap.size wz w' :=
  ⟨⟨Blk.tag6 (k1.below hb k1.lt), Blk.tag6 (k2.below hb k2.lt)⟩, hb⟩

set_option maxHeartbeats 4000000 in
theorem TagBack_walk (no index : Int) (av : Value) (xa : List Int) (bv0 : Value) (xb : List Int) (pt sub : Int) (w : World)
    (w0 : (Lit.int .i64 no).wf = true) (w1 : (Lit.int .i64 index).wf = true) (w2 : IRow .u8 w av xa) (w3 : IRow .u8 w bv0 xb) (w4 : (Lit.int .i64 pt).wf = true) (w5 : (Lit.int .u8 sub).wf = true) :
    Calls Try.prog 4 #[.int .i64 no, .int .i64 index, av, bv0, .int .i64 pt, .int .u8 sub] w fun e w' => e = .returned (.bool true) ∧ Below w.heap.size w w' := by
  have ha := w2.bytes
  have hb := w3.bytes
  have hsub := wf_u8 w5
  obtain ⟨aoa, capa, hva⟩ := ha.of_len
  obtain ⟨aob, capb, hvb⟩ := hb.of_len
  by_cases hbig : (300 : Int) < xa.length
  · subst hva hvb
    generalize xa.length = n at *
    clear w2 w3 ha hb
    go_enter Try.func4, Try.ntmps4
    go_wp2_with fail
    refine (awake_any _).mono ?_
    rintro e w5 ⟨rfl, hb5⟩
    go_wp2
    go_ret
    exact ⟨rfl, hb5⟩
  · by_cases hbig2 : (300 : Int) < xb.length
    · subst hva hvb
      have hbig' : (xa.length : Int) ≤ 300 := by omega
      generalize xa.length = n at *
      generalize xb.length = m at *
      clear w2 w3 ha hb
      go_enter Try.func4, Try.ntmps4
      go_wp2_with fail
      refine (awake_any _).mono ?_
      rintro e w5 ⟨rfl, hb5⟩
      go_wp2
      go_ret
      exact ⟨rfl, hb5⟩
    · subst hva hvb
      have hl1 : (xa.length : Int) ≤ 300 := by omega
      have hl2 : (xb.length : Int) ≤ 300 := by omega
      obtain ⟨N, hN, eN⟩ := cut31 no
      obtain ⟨I, hI, eI⟩ := cut31 index
      obtain ⟨k, hk, ek⟩ := cut_n pt 16 (by omega) (by omega)
      have hsr := sumS_range xa
      have hsb := sumS_range xb
      obtain ⟨sa, hsa⟩ : ∃ z, sumS xa = z := ⟨_, rfl⟩
      obtain ⟨sb, hsbe⟩ : ∃ z, sumS xb = z := ⟨_, rfl⟩
      rw [hsa] at hsr
      rw [hsbe] at hsb
      have HSA := hide hsa
      have HSB := hide hsbe
      have HA := hide ha
      have HB := hide hb
      have HN := hide hN
      have HI := hide hI
      have HEK := hide ek
      have HEN := hide eN
      have HEI := hide eI
      generalize xa.length = n at *
      generalize xb.length = m at *
      clear w2 w3 ha hb hN hI hsa hsbe ek eN eI
      go_enter Try.func4, Try.ntmps4
      go_wp2_with fail
      rw [HEN.out, HEI.out]
      refine (TOf_any w _ xa N I HA.out).mono ?_
      rintro e wa ⟨rfl, hba⟩
      rw [HSA.out]
      have hba' : Below w.heap.size w (wa.alloc (.cells (tcells N I sa) 25)) := hba.alloc hba.size _
      have HKA := hide (show Blk (wa.alloc (.cells (tcells N I sa) 25)) wa.heap.size (tcells N I sa) 25 from Blk.new wa _ _)
      clear hba
      unfold tcells
      go_wp2_with fail
      refine (Write_any (wa.alloc (.cells (tcells N I sa) 25)) N I sa hsr).mono ?_
      rintro e wb ⟨x, rfl, hxb, hbb⟩
      rw [show writeS N I sa = (tagW N I sa, 0) by simp [writeS, HN.out, HI.out]] at hxb ⊢
      have hxl := tagW_length N I sa
      obtain ⟨g, cx, hvx, hg0, hg1, hcx⟩ := hxb.form (by rw [hxl]; omega)
      rw [hxl] at hvx hcx
      subst hvx
      have HXB := hide hxb
      have HKB := hide (HKA.out.below hbb HKA.out.lt)
      have hgT : wa.heap.size < g := Nat.lt_of_lt_of_le HKA.out.lt hg0
      have hgS : w.heap.size ≤ g := Nat.le_trans hba'.size hg0
      have hB2 : Below w.heap.size w wb := hba'.trans (hbb.mono hba'.size)
      clear hxb hbb HKA hba' hxl
      go_wp2_with fail
      refine (awake_any wb).mono ?_
      rintro e wc ⟨rfl, hbc⟩
      have HXC := hide (HXB.out.kept hbc)
      have HKC := hide (HKB.out.below hbc HKB.out.lt)
      have hB3 : Below w.heap.size w wc := hB2.trans (hbc.mono hB2.size)
      have hg2 : g < wc.heap.size := Nat.lt_of_lt_of_le hg1 hbc.size
      clear hbc HXB HKB hB2 hg1
      go_wp2_with fail
      refine (Read_any wc _ _ HXC.out.row).mono ?_
      rintro e wd ⟨rfl, hbd⟩
      rw [readS_tagW HN.out HI.out hsr]
      have hbd' : Below wc.heap.size wc (wd.alloc (.cells (tcells N I sa) 25)) := hbd.alloc hbd.size _
      have HXD := hide (HXC.out.kept hbd')
      have HTD := hide (HKC.out.below hbd' HKC.out.lt)
      have HUD := hide (show Blk (wd.alloc (.cells (tcells N I sa) 25)) wd.heap.size (tcells N I sa) 25 from Blk.new wd _ _)
      have hB4 : Below w.heap.size w (wd.alloc (.cells (tcells N I sa) 25)) := hB3.trans (hbd'.mono hB3.size)
      have hgU : g < wd.heap.size := Nat.lt_of_lt_of_le hg2 hbd.size
      clear hbd hbd' HXC HKC hB3 hg2
      obtain ⟨xk, hxk⟩ : ∃ z, z = (tagW N I sa).getD k 0 := ⟨_, rfl⟩
      have hxkr : 0 ≤ xk ∧ xk < 256 := hxk ▸ (tagW_bys N I sa).at k
      obtain ⟨hyr, hyi⟩ := xor_seen6 xk sub hxkr hsub
      obtain ⟨yx, hyx⟩ : ∃ z, bits .xor .u8 xk sub = z := ⟨_, rfl⟩
      rw [hyx] at hyr hyi
      have hc1 := HXD.out.cellAt (tagW_length N I sa) k hk
      have hf1 := HXD.out.frozenAt (tagW_length N I sa) k
      have HOY := hide (HXD.out.stored (tagW_length N I sa) k yx hyr)
      rw [← hxk] at hc1
      have HTE := hide (HTD.out.kept (grown_setCell (wd.alloc (.cells (tcells N I sa) 25)) g k (.int .u8 yx)) (by intro e; exact absurd (Option.some.inj e) (by omega)))
      have HUE := hide (HUD.out.kept (grown_setCell (wd.alloc (.cells (tcells N I sa) 25)) g k (.int .u8 yx)) (by intro e; exact absurd (Option.some.inj e) (by omega)))
      have hB5 : Below w.heap.size w ((wd.alloc (.cells (tcells N I sa) 25)).setCell ⟨g, k, none⟩ (.int .u8 yx)) := hB4.setCell hgS _
      have hrd : (sub = 0 ∧ readS ((tagW N I sa).set k yx) = ((N, I, sa), 0)) ∨ (¬ sub = 0 ∧ readS ((tagW N I sa).set k yx) = ((0, 0, 0), 4)) := by
        by_cases h0 : sub = 0
        · refine .inl ⟨h0, ?_⟩
          rw [hyi.2 h0, hxk, set_same (by rw [tagW_length]; exact hk)]
          exact readS_tagW HN.out HI.out hsr
        · refine .inr ⟨h0, ?_⟩
          exact readS_spoilt HN.out HI.out hsr hk hyr (fun e => h0 (hyi.1 (e.trans hxk.symm)))
      have HRD := hide hrd
      have ek := HEK.out
      rw [show ((16 : Nat) : Int) = 16 from rfl] at ek
      have hk' : (k : Int) < 16 := by omega
      clear hrd hyi HEK hxk HXD HTD HUD
      unfold tcells at hc1 hf1 ⊢
      go_wp2_with fail
      rw [← World.setCell_alloc_past (w := wd) (.cells #[.int .i64 N, .int .i64 I, .int .u32 sa] 25) g k (.int .u8 yx) hgU]
      unfold tcells at HOY HTE HUE hB5
      generalize (wd.alloc (.cells #[.int .i64 N, .int .i64 I, .int .u32 sa] 25)).setCell ⟨g, k, none⟩ (.int .u8 yx) = we at *
      obtain ⟨r0, r1, r2, er, hr, her⟩ : ∃ r0 r1 r2 er, readS ((tagW N I sa).set k yx) = ((r0, r1, r2), er) ∧ ((sub = 0 ∧ er = 0) ∨ (¬ sub = 0 ∧ er = 4)) := by
        rcases HRD.out with ⟨h0, h1⟩ | ⟨h0, h1⟩
        · exact ⟨_, _, _, _, h1, .inl ⟨h0, rfl⟩⟩
        · exact ⟨_, _, _, _, h1, .inr ⟨h0, rfl⟩⟩
      have HER := hide her
      have HRR := hide hr
      have HKD : wa.heap.size < g := hgT
      clear her hr HRD hc1 hf1 ek hyx hxkr hyr HEN HEI hB4
      refine (Read_any we _ _ HOY.out.row).mono ?_
      rintro e wf ⟨rfl, hbf⟩
      rw [HRR.out]
      have hbf' : Below we.heap.size we (wf.alloc (.cells (tcells r0 r1 r2) 25)) := hbf.alloc hbf.size _
      have HTF := hide (HTE.out.below hbf' HTE.out.lt)
      have HUF := hide (HUE.out.below hbf' HUE.out.lt)
      have hB6 : Below w.heap.size w (wf.alloc (.cells (tcells r0 r1 r2) 25)) := hB5.trans (hbf'.mono hB5.size)
      obtain ⟨Z, hZ⟩ : ∃ Z : List Int, Z = List.replicate 16 0 := ⟨_, rfl⟩
      have hmk : ∀ w : World, (Instr.makeSlice 22 (.int .i64 16) (.int .i64 16)).run Try.prog w = .ok (.slice (some ⟨w.heap.size, 0, none⟩) 16 16) (w.alloc (.cells (bv Z).toArray 5)) := fun w => hZ ▸ run_make_bytes6 w 16 (by omega)
      have HZ := hide hZ
      clear hbf hbf' HTE HUE hB5 HOY HRR hZ
      unfold tcells
      go_wp2_with fail
      have hsz : (wf.alloc (.cells #[.int .i64 r0, .int .i64 r1, .int .u32 r2] 25)).heap.size = wf.heap.size + 1 := by simp
      unfold tcells at hB6 HTF HUF
      generalize wf.alloc (.cells #[.int .i64 r0, .int .i64 r1, .int .u32 r2] 25) = wm at *
      have HSZ := hide hsz
      have hbm0 : Below wm.heap.size wm (wm.alloc (.cells (bv Z).toArray 5)) := (Below.refl _ _).alloc (Nat.le_refl _) _
      have hkm0 : Blk (wm.alloc (.cells (bv Z).toArray 5)) wm.heap.size (bv Z).toArray 5 := Blk.new wm _ _
      rw [hsz] at hkm0
      clear hmk hsz
      go_loopw [88] (fun i wr => ∃ j : Nat, j ≤ 16 ∧ i = .int .i64 j ∧ Blk wr (wf.heap.size + 1) (bv (List.replicate j 255 ++ Z.drop j)).toArray 5 ∧ Below wm.heap.size wm wr) (fun i _ => 16 - (intOf i).toNat)
      case atStart => exact ⟨0, Nat.zero_le _, rfl, by simpa using hkm0, hbm0⟩
      case round =>
        obtain ⟨j, hj, rfl, hB, hg⟩ := hrel
        clear hkm0 hbm0
        by_cases hlt : j < 16
        · have hj' : (j : Int) < 16 := by omega
          have hlen : (List.replicate j (255 : Int) ++ Z.drop j).length = 16 := by rw [HZ.out]; simp; omega
          obtain ⟨z, hz⟩ : ∃ z, (List.replicate j (255 : Int) ++ Z.drop j).getD j 0 = z := ⟨_, rfl⟩
          have hc : wr.cell? ⟨wf.heap.size + 1, j, none⟩ = some (.int .u8 z) := by rw [hB.cell j, List.getElem?_toArray, bv_at (by omega), hz]
          have hf := hB.frozen j
          have hset : (List.replicate j (255 : Int) ++ Z.drop j).set j 255 = List.replicate (j + 1) 255 ++ Z.drop (j + 1) := by
            rw [HZ.out, List.drop_replicate, List.drop_replicate]
            rw [List.set_append_right _ _ (by simp)]
            rw [show 16 - j = (16 - (j + 1)) + 1 by omega, List.replicate_succ, List.replicate_succ']
            simp
          have HR := hide (show Blk (wr.setCell ⟨wf.heap.size + 1, j, none⟩ (.int .u8 255)) (wf.heap.size + 1) (bv (List.replicate (j + 1) 255 ++ Z.drop (j + 1))).toArray 5 by
            rw [← hset]
            have := hB.set j (.int .u8 255)
            rw [show bv ((List.replicate j (255 : Int) ++ Z.drop j).set j 255) = (bv (List.replicate j (255 : Int) ++ Z.drop j)).set j (.int .u8 255) from by simp [bv, List.map_set]]
            simpa using this)
          have G : Below wm.heap.size wm (wr.setCell ⟨wf.heap.size + 1, j, none⟩ (.int .u8 255)) := hg.setCell (by rw [HSZ.out]; exact Nat.le_refl _) _
          clear hB hlen hz hset hg
          go_wp2
          exact ⟨⟨j + 1, by omega, by go_num, HR.out, G⟩, by simp [intOf]; omega⟩
        · obtain rfl : j = 16 := by omega
          have HRB := hide (show Row wr (.slice (some ⟨wf.heap.size + 1, 0, none⟩) 16 16) (List.replicate 16 255) by
            have hB' := hB
            rw [HZ.out, show (List.replicate 16 (255 : Int) ++ (List.replicate 16 (0 : Int)).drop 16) = List.replicate 16 255 by simp] at hB'
            exact hB'.bytes6 (by simp) (by unfold maxLen; omega) (by intro x hx; rw [List.mem_replicate] at hx; omega))
          have HTG := hide (HTF.out.below hg HTF.out.lt)
          have HUG := hide (HUF.out.below hg HUF.out.lt)
          have hB7 : Below w.heap.size w wr := hB6.trans (hg.mono hB6.size)
          clear hB HZ HTF HUF hg hB6
          go_wp2_with fail
          refine (Read_any wr _ _ HRB.out).mono ?_
          rintro e wg ⟨rfl, hbg⟩
          rw [readS_blank]
          have hbg' : Below wr.heap.size wr (wg.alloc (.cells (tcells 0 0 0) 25)) := hbg.alloc hbg.size _
          have HTH := hide (HTG.out.below hbg' HTG.out.lt)
          have HUH := hide (HUG.out.below hbg' HUG.out.lt)
          have hB8 : Below w.heap.size w (wg.alloc (.cells (tcells 0 0 0) 25)) := hB7.trans (hbg'.mono hB7.size)
          clear hbg hbg' HTG HUG hB7 HRB
          unfold tcells at hB8 HTH HUH ⊢
          rcases HER.out with ⟨h0, rfl⟩ | ⟨h0, rfl⟩
          · subst h0
            clear HER
            go_wp2_with fail
            generalize wg.alloc (.cells #[.int .i64 0, .int .i64 0, .int .u32 0] 25) = wz at *
            have hfl := run_field_sum N I sb
            have HSS := hide (fun w' hb => BackS_of (w' := w') HTH.out HUH.out hb)
            have HRA := hide (fun w' hb => (HA.out.below hB8).below (w' := w') hb)
            have HRB := hide (fun w' hb => (HB.out.below hB8).below (w' := w') hb)
            clear HTH HUH HA HB hgT hgS hgU HKD hg0 hcx
            go_region_held3 (fun w' => ((w'.cell? ⟨wa.heap.size, 0, none⟩ = some (.int .i64 N) ∧ w'.cell? ⟨wa.heap.size, 1, none⟩ = some (.int .i64 I) ∧ w'.cell? ⟨wa.heap.size, 2, none⟩ = some (.int .u32 sa)) ∧
              (w'.cell? ⟨wd.heap.size, 0, none⟩ = some (.int .i64 N) ∧ w'.cell? ⟨wd.heap.size, 1, none⟩ = some (.int .i64 I) ∧ w'.cell? ⟨wd.heap.size, 2, none⟩ = some (.int .u32 sa))) ∧ Below wz.heap.size wz w')
              (first
                | assumption
                | exact HSS.out _ ((Below.refl _ _).drew)
                | exact HSS.out _ ((held_below (by assumption)).trans (hb5.mono (held_size (by assumption)))))
              (first
                | (go_at_call 12; refine (TOf_any _ _ xb N I (HRB.out _ (held_below (by assumption)))).mono ?_; rintro e w5 ⟨rfl, hb5⟩; rw [HSB.out]; unfold tcells)
                | (go_at_call_of 15 (Value.slice aoa n capa); refine (RSum_any _ _ xa (HRA.out _ (held_below (by assumption)))).mono ?_; rintro e w6 ⟨rfl, rfl⟩; rw [HSA.out])
                | (go_at_call_of 15 (Value.slice aob m capb); refine (RSum_any _ _ xb (HRB.out _ (held_below (by assumption)))).mono ?_; rintro e w7 ⟨rfl, rfl⟩; rw [HSB.out])
                | fail)
            all_goals
              have hBe := hB8.trans ((held_below (by assumption)).mono hB8.size)
              go_wp2
              go_ret
              refine ⟨ret_one ?_, hBe⟩
              rfl
          · have h1 : (sub == 0) = false := beq_eq_false_iff_ne.2 h0
            clear HER h0
            go_wp2_with fail
            generalize wg.alloc (.cells #[.int .i64 0, .int .i64 0, .int .u32 0] 25) = wz at *
            have hfl := run_field_sum N I sb
            have HSS := hide (fun w' hb => BackS_of (w' := w') HTH.out HUH.out hb)
            have HRA := hide (fun w' hb => (HA.out.below hB8).below (w' := w') hb)
            have HRB := hide (fun w' hb => (HB.out.below hB8).below (w' := w') hb)
            clear HTH HUH HA HB hgT hgS hgU HKD hg0 hcx
            go_region_held3 (fun w' => ((w'.cell? ⟨wa.heap.size, 0, none⟩ = some (.int .i64 N) ∧ w'.cell? ⟨wa.heap.size, 1, none⟩ = some (.int .i64 I) ∧ w'.cell? ⟨wa.heap.size, 2, none⟩ = some (.int .u32 sa)) ∧
              (w'.cell? ⟨wd.heap.size, 0, none⟩ = some (.int .i64 N) ∧ w'.cell? ⟨wd.heap.size, 1, none⟩ = some (.int .i64 I) ∧ w'.cell? ⟨wd.heap.size, 2, none⟩ = some (.int .u32 sa))) ∧ Below wz.heap.size wz w')
              (first
                | assumption
                | exact HSS.out _ ((Below.refl _ _).drew)
                | exact HSS.out _ ((held_below (by assumption)).trans (hb5.mono (held_size (by assumption)))))
              (first
                | (go_at_call 12; refine (TOf_any _ _ xb N I (HRB.out _ (held_below (by assumption)))).mono ?_; rintro e w5 ⟨rfl, hb5⟩; rw [HSB.out]; unfold tcells)
                | (go_at_call_of 15 (Value.slice aoa n capa); refine (RSum_any _ _ xa (HRA.out _ (held_below (by assumption)))).mono ?_; rintro e w6 ⟨rfl, rfl⟩; rw [HSA.out])
                | (go_at_call_of 15 (Value.slice aob m capb); refine (RSum_any _ _ xb (HRB.out _ (held_below (by assumption)))).mono ?_; rintro e w7 ⟨rfl, rfl⟩; rw [HSB.out])
                | fail)
            all_goals
              have hBe := hB8.trans ((held_below (by assumption)).mono hB8.size)
              go_wp2
              go_ret
              refine ⟨ret_one ?_, hBe⟩
              rfl
end Go.Proofs.Ytfacmeblldljdaa
