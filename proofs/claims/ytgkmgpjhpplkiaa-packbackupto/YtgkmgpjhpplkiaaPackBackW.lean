/-
  PackBack: its walk.
-/
import Derived.Deep.CutBlock
import Derived.Deep.DeepCutAuto
import Derived.Test.YtgkmgpjhpplkiaaPackBackB1
namespace Go.Proofs.Ytgkmgpjhpplkiaa
open Go.RowKit
set_option linter.unusedVariables false
set_option maxRecDepth 100000

theorem PackBack_open0 (w : World) : OpensN Try.prog w 22 (fun cs n => ∃ v xs, cs = [v] ∧ DRow w v xs ∧ wtL (xs.map Dv.d) + 1 ≤ n) := opensN_deeds w
theorem in64_of {v : Int} (h : (Lit.int .i64 v).wf = true) : In64 v := by
  simp [Lit.wf, IntKind.min, IntKind.max, IntKind.signed, IntKind.bits] at h
  unfold In64
  omega
theorem mem_le_sum {α : Type} (f : α → Nat) {l : List α} {x : α} (h : x ∈ l) : f x ≤ (l.map f).sum := by
  induction l with
  | nil => cases h
  | cons a t ih =>
    rw [List.map_cons, List.sum_cons]
    rcases List.mem_cons.1 h with rfl | h
    · omega
    · have := ih h; omega
theorem cleanD_le (d : Dd) : sizD (cleanD d) ≤ sizD d := by
  unfold cleanD
  split
  · exact sizD_drop d d.x (.inl rfl) _ _
  · exact sizD_drop d noI (.inr rfl) _ _
theorem cleanL_le (l : List Dd) : sizL (l.map cleanD) ≤ sizL l := by
  unfold sizL
  induction l with
  | nil => exact Nat.le_refl _
  | cons a t ih =>
    have := cleanD_le a
    rw [List.map_cons, List.map_cons, List.map_cons, List.sum_cons, List.sum_cons]
    omega
theorem clean_map (l : List Dv) : (l.map cleanV).map Dv.d = (l.map Dv.d).map cleanD := by
  simp [List.map_map, Function.comp_def, cleanV_d]
theorem sizE_ge (e : En) : e.s.size ≤ sizE e := by unfold sizE; omega
theorem clean_ok {w : World} {x : Dv} (h : x.Wf) (hr : x.Reads w) (hs : sizD x.d ≤ 4000) : DdOk (cleanV x).d := by
  have hk := cleanK_range x.d.kind
  rw [cleanV_d]
  unfold cleanD
  unfold sizD at hs
  split
  · rename_i h2
    refine .inr ⟨rfl, rfl, ?_⟩
    have hel : x.d.x.es.length ≤ (x.d.x.es.map sizE).sum := by
      have : ∀ l : List En, l.length ≤ (l.map sizE).sum := by
        intro l
        induction l with
        | nil => simp
        | cons a t ih => rw [List.map_cons, List.sum_cons, List.length_cons]; unfold sizE at *; omega
      exact this _
    exact ⟨⟨⟨⟨⟨⟨in64_of h.xno, in64_of h.xkind⟩, in64_of h.xlinks⟩, in64_of h.xsize⟩, by dsimp only; omega⟩, by dsimp only; omega, fun e he => ⟨by have h3 : sizE e ≤ (x.d.x.es.map sizE).sum := mem_le_sum sizE he; have h4 := sizE_ge e; omega, in64_of (hr.e.2 e he).n⟩⟩, by dsimp only; omega, fun r hr' => ⟨⟨in64_of (hr.r.2 r hr').f, in64_of (hr.r.2 r hr').a⟩, in64_of (hr.r.2 r hr').n⟩⟩
  · rename_i h2
    exact .inl ⟨by dsimp only; omega, in64_of h.no, rfl⟩
theorem cut_nn (c : Int) (n : Nat) (h : 0 < n) (hn : n ≤ 1000000) : ∃ k : Nat, k < n ∧ wrap64 ((IntKind.u64.wrap c).tmod (n : Int)) = (k : Int) := by
  have h0 : 0 ≤ c % 18446744073709551616 % (n : Int) := Int.emod_nonneg _ (by omega)
  have h1 : c % 18446744073709551616 % (n : Int) < n := Int.emod_lt_of_pos _ (by omega)
  refine ⟨((c % 18446744073709551616) % (n : Int)).toNat, by omega, ?_⟩
  rw [IntKind.wrap_u64, Int.tmod_eq_emod_of_nonneg (Int.emod_nonneg _ (by omega)), IntWalk.wrap64_in _ (by omega)]
  omega
theorem DRow.cut {w : World} {ao : Option Addr} {n cap : Nat} {l : List Dv} (h : DRow w (.slice ao n cap) l) (k : Nat) (hk : k ≤ n) : DRow w (.slice ao k cap) (l.take k) := by
  obtain ⟨⟨⟨ao', cap', hv, h1, h2, h3, h4⟩, hw⟩, hd⟩ := h
  simp only [Value.slice.injEq] at hv
  obtain ⟨rfl, rfl, rfl⟩ := hv
  refine ⟨⟨⟨ao, cap, by rw [List.length_take, Nat.min_eq_left hk], by rw [List.length_take]; omega, h2, h3, fun a ha i x hx j u hu => ?_⟩, fun x hx => hw x (List.mem_of_mem_take hx)⟩, fun x hx => hd x (List.mem_of_mem_take hx)⟩
  refine h4 a ha i x ?_ j u hu
  rw [List.getElem?_take] at hx
  split at hx
  · exact hx
  · cases hx
theorem DRow.capOf {w : World} {ao : Option Addr} {n cap : Nat} {l : List Dv} (h : DRow w (.slice ao n cap) l) : n ≤ cap ∧ cap ≤ 9223372036854775807 := by
  obtain ⟨⟨⟨ao', cap', hv, h1, h2, h3, h4⟩, hw⟩, hd⟩ := h
  simp only [Value.slice.injEq] at hv
  obtain ⟨rfl, rfl, rfl⟩ := hv
  unfold maxLen at h2
  exact ⟨h1, by omega⟩
theorem cleanV_apart {w : World} {x : Dv} {base : Nat} (h : ApartN x.d.x.es.length base w x.ev ∧ ApartN x.d.x.rs.length base w x.rv) : ApartN (cleanV x).d.x.es.length base w (cleanV x).ev ∧ ApartN (cleanV x).d.x.rs.length base w (cleanV x).rv := by
  unfold cleanV
  split
  · exact h
  · exact ⟨.inl rfl, .inl rfl⟩

set_option maxHeartbeats 8000000 in
theorem PackBack_walk (lv : Value) (ls : List Dv) (cut k : Int) (w : World) (hl : DRow w lv ls) (hnl : wtL (ls.map Dv.d) + 1 ≤ 1048576) (hc : (Lit.int .i64 cut).wf = true) (hk : (Lit.int .u8 k).wf = true) :
    Calls Try.prog 4 #[lv, .int .i64 cut, .int .u8 k] w fun e w' => e = .returned (.bool true) ∧ Below w.heap.size w w' := by
  have HAW := hide (fun w' => awake_any w')
  have HFW := hide (few_any w lv ls hl hnl)
  have HD := hide hl
  have hk' := wf_u8 hk
  have hlen := hl.lenRun
  have hlm := hl.len
  unfold maxLen at hlm
  clear hl hnl hk hc
  by_cases h1 : sizL (ls.map Dv.d) ≤ 4000
  · rw [decide_eq_true h1] at HFW
    have hOk : ∀ d ∈ (ls.map cleanV).map Dv.d, DdOk d := by
      intro d hd
      obtain ⟨y, hy, rfl⟩ := List.mem_map.1 hd
      obtain ⟨x, hx, rfl⟩ := List.mem_map.1 hy
      exact clean_ok (HD.out.1.2 x hx) (HD.out.2 x hx) (by have h2 := mem_le_sum sizD (List.mem_map_of_mem (f := Dv.d) hx); unfold sizL at h1; omega)
    have hSz : sizL ((ls.map cleanV).map Dv.d) ≤ 4000 := by rw [clean_map]; exact Nat.le_trans (cleanL_le _) h1
    have HPl := hide (packL_few hSz)
    have HPk := hide (parse_pack hOk)
    have HKd := hide (parse_kind hOk)
    have HCt := hide (fun c hc => parse_cut hOk (c := c) hc)
    have hnz : ls ≠ [] → (packL ((ls.map cleanV).map Dv.d)).length ≠ 0 := by
      intro hne e
      have := packL_len ((ls.map cleanV).map Dv.d)
      rw [List.length_map, List.length_map] at this
      exact hne (List.eq_nil_of_length_eq_zero (by omega))
    have HNZ := hide hnz
    obtain ⟨len, hL⟩ : ∃ n, ls.length = n := ⟨_, rfl⟩
    have HL := hide hL
    have hl4 : len ≤ 400 := by have := length_few h1; rw [List.length_map] at this; omega
    simp only [hL] at hlen
    clear hOk hSz h1 hL hnz hlm
    go_enter Try.func4, Try.ntmps4
    go_wp2_with fail
    refine HFW.out.mono ?_
    rintro e w1 ⟨rfl, hb1⟩
    have HB1 := hide hb1
    have HD1 := hide (HD.out.below hb1)
    clear hb1 HFW HD
    go_wp2
    go_loopw [7, 8] (fun u i wr => ∃ k : Nat, k ≤ len ∧ i = .int .i64 k ∧ Hid (DOwn w1.heap.size wr u ((ls.take k).map cleanV)) ∧ Hid (Below w1.heap.size w1 wr)) (fun _ i _ => len - (intOf i).toNat)
    case atStart => exact ⟨0, Nat.zero_le _, rfl, hide (DOwn.nil _ _), hide (Below.refl _ _)⟩
    case round =>
      obtain ⟨j, hj, rfl, HO, HB⟩ := hrel
      by_cases hlt : j < len
      · skip
        have hlt' : (j : Int) < len := by omega
        have hjx : j < ls.length := by rw [HL.out]; exact hlt
        obtain ⟨b, o, hbs, hidx, hc⟩ := (HD1.out.below HB.out).idx j hjx
        have hmem : ls.getD j default ∈ ls := by rw [List.getD, List.getElem?_eq_getElem hjx]; exact List.getElem_mem hjx
        have hwf := HD1.out.1.2 _ hmem
        have hrd := HD1.out.2 _ hmem
        have hap : ApartN (ls.getD j default).d.x.es.length w1.heap.size w1 (ls.getD j default).ev ∧ ApartN (ls.getD j default).d.x.rs.length w1.heap.size w1 (ls.getD j default).rv := ⟨hrd.e.elder (Nat.le_refl _), hrd.r.elder (Nat.le_refl _)⟩
        have hsum : (ls.take (j + 1)).map cleanV = (ls.take j).map cleanV ++ [cleanV (ls.getD j default)] := by
          rw [List.take_succ_eq_append_getElem hjx, List.map_append]
          simp [List.getD, List.getElem?_eq_getElem hjx]
        generalize ls.getD j default = x at *
        have HCL := hide (clean_any wr x hwf (hrd.below HB.out))
        have hcw := cleanV_wf hwf
        have hcr := cleanV_reads (hrd.below HB.out)
        have hca := cleanV_apart hap
        have hal : ((ls.take j).map cleanV).length ≤ 400 := by rw [List.length_map, List.length_take]; omega
        generalize (ls.take j).map cleanV = AC at *
        have HAL := hide hal
        have HS := hide hsum
        generalize hy : cleanV x = y at *
        obtain ⟨⟨kk, nn, ⟨no, kind, links, size, t, es, rs⟩⟩, ev, rv⟩ := x
        obtain ⟨ea, ec, hev⟩ := hrd.e.of_len
        obtain ⟨ra, rc, hrv⟩ := hrd.r.of_len
        dsimp only at hev hrv
        subst hev hrv
        have p0 : wr.cell? ⟨b, o, none⟩ = some (.int .i64 kk) := hc 0 _ rfl
        have p1 : wr.cell? ⟨b, o + 1, none⟩ = some (.int .i64 nn) := hc 1 _ rfl
        have p2 : wr.cell? ⟨b, o + 2, none⟩ = some (.int .i64 no) := hc 2 _ rfl
        have p3 : wr.cell? ⟨b, o + 3, none⟩ = some (.int .i64 kind) := hc 3 _ rfl
        have p4 : wr.cell? ⟨b, o + 4, none⟩ = some (.int .i64 links) := hc 4 _ rfl
        have p5 : wr.cell? ⟨b, o + 5, none⟩ = some (.int .i64 size) := hc 5 _ rfl
        have p6 : wr.cell? ⟨b, o + 6, none⟩ = some (.string t) := hc 6 _ rfl
        have p7 : wr.cell? ⟨b, o + 7, none⟩ = some (.slice ea es.length ec) := hc 7 _ rfl
        have p8 : wr.cell? ⟨b, o + 8, none⟩ = some (.slice ra rs.length rc) := hc 8 _ rfl
        generalize es.length = le at *
        generalize rs.length = lr at *
        obtain ⟨⟨k2, n2, ⟨no2, kind2, links2, size2, t2, es2, rs2⟩⟩, ev2, rv2⟩ := y
        obtain ⟨ea2, ec2, hev2⟩ := hcr.e.of_len
        obtain ⟨ra2, rc2, hrv2⟩ := hcr.r.of_len
        dsimp only at hev2 hrv2
        generalize es2.length = le2 at hev2
        generalize rs2.length = lr2 at hrv2
        subst hev2 hrv2
        have HCW := hide hcw
        have HCR := hide hcr
        have HCA := hide hca
        simp only [Dv.cells] at HCL
        clear hal hwf hrd hap hsum hcw hcr hca hy hc
        go_wp2_with fail
        refine HCL.out.mono ?_
        rintro e w2 ⟨rfl, hb2⟩
        have HB2 := hide (HB.out.trans (hb2.mono HB.out.size))
        have HO2 := hide (HO.out.kept hb2)
        have HR2 := hide (show DRow (w2.alloc (.cells #[.int .i64 k2, .int .i64 n2, .int .i64 no2, .int .i64 kind2, .int .i64 links2, .int .i64 size2, .string t2, .slice ea2 le2 ec2, .slice ra2 lr2 rc2] 38)) (.slice (some ⟨w2.heap.size, 0, none⟩) 1 1) [⟨⟨k2, n2, ⟨no2, kind2, links2, size2, t2, es2, rs2⟩⟩, .slice ea2 le2 ec2, .slice ra2 lr2 rc2⟩] from deed_new w2 _ HCW.out (HCR.out.below hb2) _ _ rfl)
        have hba := kl_alloc w2 (.cells #[.int .i64 k2, .int .i64 n2, .int .i64 no2, .int .i64 kind2, .int .i64 links2, .int .i64 size2, .string t2, .slice ea2 le2 ec2, .slice ra2 lr2 rc2] 38)
        have HB3 := hide (HB2.out.trans (hba.mono HB2.out.size))
        have HO3 := hide (HO2.out.kept hba)
        clear hb2 HCL HB HO hba p0 p1 p2 p3 p4 p5 p6 p7 p8 HO2
        have tA := HO3.out
        have tB := HR2.out
        have tC : ∀ y ∈ [(⟨⟨k2, n2, ⟨no2, kind2, links2, size2, t2, es2, rs2⟩⟩, .slice ea2 le2 ec2, .slice ra2 lr2 rc2⟩ : Dv)], ApartN y.d.x.es.length w1.heap.size (w2.alloc (.cells #[.int .i64 k2, .int .i64 n2, .int .i64 no2, .int .i64 kind2, .int .i64 links2, .int .i64 size2, .string t2, .slice ea2 le2 ec2, .slice ra2 lr2 rc2] 38)) y.ev ∧ ApartN y.d.x.rs.length w1.heap.size (w2.alloc (.cells #[.int .i64 k2, .int .i64 n2, .int .i64 no2, .int .i64 kind2, .int .i64 links2, .int .i64 size2, .string t2, .slice ea2 le2 ec2, .slice ra2 lr2 rc2] 38)) y.rv := by intro y hy; rw [List.mem_singleton] at hy; subst hy; exact ⟨HCA.out.1.below HB3.out, HCA.out.2.below HB3.out⟩
        have tD : AC.length + [(⟨⟨k2, n2, ⟨no2, kind2, links2, size2, t2, es2, rs2⟩⟩, .slice ea2 le2 ec2, .slice ra2 lr2 rc2⟩ : Dv)].length ≤ 1000000000000 := by have := HAL.out; simp; omega
        have tE := HB3.out.size
        go_wp2_with (at_builtin; refine wpList_append_deeds rfl _ _ rfl w1.heap.size _ _ AC [⟨⟨k2, n2, ⟨no2, kind2, links2, size2, t2, es2, rs2⟩⟩, .slice ea2 le2 ec2, .slice ra2 lr2 rc2⟩] rfl tA rfl tB tC tD tE ?_)
        intro u4 w4 ho4 hg4
        have HO4 := hide ho4
        have HB4 := hide (HO3.out.grown_below HB3.out hg4 (Nat.le_refl _) HB3.out.size)
        clear ho4 hg4 tA tB tC tD tE
        go_wp2
        exact ⟨⟨j + 1, by omega, by go_num, hide (by rw [HS.out]; exact HO4.out), HB4⟩, by simp [intOf]; omega⟩
      · obtain rfl : j = len := by omega
        have HE := hide (show ls.take j = ls by rw [← HL.out]; exact List.take_length)
        rw [HE.out] at HO
        clear HE
        generalize hM : ls.map cleanV = M at *
        have hMl : M.length = j := by rw [← hM, List.length_map]; exact HL.out
        have hNZ2 : j ≠ 0 → (packL (M.map Dv.d)).length ≠ 0 := fun h0 => HNZ.out (fun e => h0 (by rw [← HL.out, e]; rfl))
        have HMl := hide hMl
        have HM := hide (show DRow wr u7 M from HO.out.row)
        have HBw := hide (kl_step (show Below w1.heap.size w1 wr from HB.out) HB1.out)
        have hJ0 : j = 0 → (packL (M.map Dv.d)).length = 0 := fun h0 => by
          have : M = [] := List.eq_nil_of_length_eq_zero (by omega)
          rw [this]; rfl
        obtain ⟨ma, mc, hma⟩ := HM.out.of_len
        rw [HMl.out] at hma
        subst hma
        have HC := hide (Deeds_any wr _ M HM.out (by have := HPl.out; omega))
        generalize hBS : packL (M.map Dv.d) = BS at *
        clear hM hMl HNZ HB HO HD1 HL hBS
        go_wp2_with fail
        refine HC.out.mono ?_
        rintro e w2 ⟨u2, rfl, ho2, hb2⟩
        have HR2 := hide ho2.row
        obtain ⟨ba, bc, hbv⟩ := ho2.row.of_len
        obtain ⟨L, hLL⟩ : ∃ n, BS.length = n := ⟨_, rfl⟩
        have HLB := hide hLL
        have HP2 := hide (show L ≤ 96000 by rw [← hLL]; exact HPl.out)
        have HNZ3 := hide (show j ≠ 0 → L ≠ 0 by rw [← hLL]; exact hNZ2)
        have HJ0 := hide (show j = 0 → L = 0 by rw [← hLL]; exact hJ0)
        rw [hLL] at hbv
        subst hbv
        have HM2 := hide (HM.out.below hb2)
        have HBw2 := hide (kl_step hb2 HBw.out)
        have HC2 := hide (Parse_any w2 _ BS HR2.out (by have := HPl.out; omega))
        rw [HPk.out] at HC2
        clear ho2 hb2 HC HM HBw hLL hNZ2 hJ0
        go_wp2_with fail
        refine HC2.out.mono ?_
        rintro e w3 ⟨u3, ds3, rfl, hd3, hm3, hb3⟩
        have HR3 := hide (HR2.out.below hb3)
        have HM3 := hide (HM2.out.below hb3)
        have HD3 := hide hd3.row
        have HBw3 := hide (kl_step hb3 HBw2.out)
        dsimp only at hm3
        have HM3d := hide hm3
        clear hd3 hm3 hb3 HR2 HM2 HBw2 HC2
        have hLm := HP2.out
        have tA : ([] : List Int).length + BS.length ≤ 140737488355328 := by rw [HLB.out]; simp; omega
        have tB := HR3.out
        have tC := Own.nil w3.heap.size w3
        go_wp2_with (at_builtin; refine wpList_append_row rfl _ _ rfl w3.heap.size (.slice none 0 0) _ [] BS rfl tC rfl tB tA (Nat.le_refl _) ?_)
        intro u4 w4 ho4 hg4
        (try rw [List.nil_append] at ho4)
        have hb4 : Below w3.heap.size w3 w4 := (Own.nil w3.heap.size w3).grown_below (Below.refl _ _) hg4 (Nat.le_refl _) (Nat.le_refl _)
        have tD := ho4.alloc (.cells #[.int .u8 k] 5)
        have tE := row_new1 w4 k hk'
        have tF : BS.length + [k].length ≤ 140737488355328 := by rw [HLB.out]; simp; omega
        have tG : w3.heap.size ≤ (w4.alloc (.cells #[.int .u8 k] 5)).heap.size := by have := hb4.size; simp; omega
        have HO4 := hide tD
        have HB4 := hide (show Below w3.heap.size w3 (w4.alloc (.cells #[.int .u8 k] 5)) from hb4.alloc hb4.size _)
        clear tA tB tC ho4 hg4 hb4
        go_wp2_with (at_builtin; refine wpList_append_row rfl _ _ rfl w3.heap.size u4 _ BS [k] rfl tD rfl tE tF tG ?_)
        intro u5 w5 ho5 hg5
        have HB5 := hide (HO4.out.grown_below HB4.out hg5 (Nat.le_refl _) HB4.out.size)
        have hC := Parse_any w5 u5 _ ho5.row (by rw [List.length_append, HLB.out]; simp; omega)
        rw [HKd.out k] at hC
        obtain ⟨fv, hfv⟩ : ∃ fv : Int, (if k < 1 ∨ 4 < k then (5 : Int) else 3) = fv := ⟨_, rfl⟩
        rw [hfv] at hC
        have HFV := hide hfv
        have HC3 := hide hC
        have HR5 := hide (HR3.out.below HB5.out)
        have HM5 := hide (HM3.out.below HB5.out)
        have HD5 := hide (HD3.out.below HB5.out)
        have HBw5 := hide (kl_step HB5.out HBw3.out)
        clear tD tE tF tG ho5 hg5 hC hfv HR3 HM3 HD3 HBw3 HO4 HB4 HB5
        go_wp2_with fail
        refine HC3.out.mono ?_
        rintro e w6 ⟨u6, ds6, rfl, _, _, hb6⟩
        have HR6 := hide (HR5.out.below hb6)
        have HM6 := hide (HM5.out.below hb6)
        have HD6 := hide (HD5.out.below hb6)
        have HBw6 := hide (kl_step hb6 HBw5.out)
        clear hb6 HC3 HR5 HM5 HD5 HBw5
        go_upto_region 12 with fail
        go_cut [56] (fun s wx => s = .bool (decide (1 ≤ k ∧ k ≤ 4)) ∧ wx = w6)
        case first =>
          by_cases h1 : 1 ≤ k
          · by_cases h2 : k ≤ 4
            · have HF := hide (decide_eq_true (show 1 ≤ k ∧ k ≤ 4 from ⟨h1, h2⟩))
              go_wp2
              go_meet
              exact ⟨congrArg Value.bool HF.out.symm, rfl⟩
            · have HF := hide (decide_eq_false (show ¬ (1 ≤ k ∧ k ≤ 4) from fun h => h2 h.2))
              go_wp2
              go_meet
              exact ⟨congrArg Value.bool HF.out.symm, rfl⟩
          · have HF := hide (decide_eq_false (show ¬ (1 ≤ k ∧ k ≤ 4) from fun h => h1 h.1))
            go_wp2
            go_meet
            exact ⟨congrArg Value.bool HF.out.symm, rfl⟩
        case rest =>
          obtain ⟨rfl, rfl⟩ := hcut
          have hB : (if decide (1 ≤ k ∧ k ≤ 4) = true then (3 : Int) else 5) = fv := by
            have hf := HFV.out
            by_cases h : 1 ≤ k ∧ k ≤ 4
            · rw [decide_eq_true h, if_pos rfl]; rw [if_neg (by omega)] at hf; exact hf
            · rw [decide_eq_false h, if_neg (by simp)]; rw [if_pos (by omega)] at hf; exact hf
          generalize decide (1 ≤ k ∧ k ≤ 4) = B at *
          have HBF := hide hB
          clear hB HFV
          go_upto_if 56 with fail
          go_cut [14] (fun s wx => s = .int .i64 fv ∧ wx = wc)
          case first =>
            cases B with
            | true =>
              have HF := hide (show (3 : Int) = fv from HBF.out)
              clear HBF
              go_wp2
              go_meet
              exact ⟨congrArg (Value.int .i64) HF.out, rfl⟩
            | false =>
              have HF := hide (show (5 : Int) = fv from HBF.out)
              clear HBF
              go_wp2
              go_meet
              exact ⟨congrArg (Value.int .i64) HF.out, rfl⟩
          case rest =>
            obtain ⟨rfl, rfl⟩ := hcut
            clear hk'
            have hfe : (fv != fv) = false := by simp
            by_cases hj0 : j = 0
            · have hL0 := HJ0.out hj0
              subst hj0 hL0
              go_wp2_with fail
              refine (HAW.out _).mono ?_
              rintro e w7 ⟨rfl, hb7⟩
              have HB7 := hide (kl_step hb7 HBw6.out)
              have HC4 := hide (SameDs_any w7 u3 _ ds3 M (HD6.out.below hb7) (HM6.out.below hb7))
              rw [HM3d.out, sameL_refl] at HC4
              clear hb7
              go_wp2_with fail
              refine HC4.out.mono ?_
              rintro e w8 ⟨rfl, hb8⟩
              have HB8 := hide (kl_step hb8 HB7.out)
              clear hb8
              go_wp2
              go_ret
              exact ⟨rfl, HB8.out⟩
            · have hL1 := HNZ3.out hj0
              have hj1 : ((j : Int) > 0) := by omega
              have hL2 : ((L : Int) == 0) = false := by simp; omega
              have hL3 : ¬ ((L : Int) = 0) := by omega
              go_wp2_with fail
              refine (HAW.out _).mono ?_
              rintro e w7 ⟨rfl, hb7⟩
              have HB7 := hide (kl_step hb7 HBw6.out)
              have HC4 := hide (SameDs_any w7 u3 _ ds3 M (HD6.out.below hb7) (HM6.out.below hb7))
              rw [HM3d.out, sameL_refl] at HC4
              have HR7 := hide (HR6.out.below hb7)
              have HM7 := hide (HM6.out.below hb7)
              clear hb7 HR6 HM6 HD6
              go_wp2_with fail
              refine HC4.out.mono ?_
              rintro e w8 ⟨rfl, hb8⟩
              have HB8 := hide (kl_step hb8 HB7.out)
              have HR8 := hide (HR7.out.below hb8)
              have HM8 := hide (HM7.out.below hb8)
              clear hb8 HR7 HM7 HC4
              obtain ⟨q, hq, hcut⟩ := cut_nn cut L (by omega) (by omega)
              have hcaps := HR8.out.caps
              obtain ⟨bb, boff, bcap, hbv, _, _, _⟩ := HR8.out.at (by intro e; rw [e] at HLB; have := HLB.out; simp at this; omega)
              rw [HLB.out] at hbv
              simp only [Value.slice.injEq, true_and] at hbv
              obtain ⟨rfl, rfl⟩ := hbv
              have hbcap : L ≤ bc := hcaps.2.1
              have hbmax : bc ≤ 9223372036854775807 := hcaps.2.2
              have hq' : (q : Int) ≤ bc := by omega
              have HRC := hide (HR8.out.cut q (by omega))
              have hC := Parse_any w8 _ _ HRC.out (by rw [List.length_take, HLB.out]; omega)
              have hne := HR8.out
              clear HR8 hne
              have hmc := HM8.out.capOf
              rcases HCt.out q (by rw [HLB.out]; exact hq) with hp | ⟨jj, hjj, hp⟩
              · rw [hp] at hC
                have HC5 := hide hC
                clear hC hcaps hp hmc
                go_wp2_with fail
                refine HC5.out.mono ?_
                rintro e w9 ⟨u9, ds9, rfl, _, _, hb9⟩
                have HB9 := hide (kl_step hb9 HB8.out)
                clear hb9 HC5
                dsimp only
                go_wp2
                go_ret
                exact ⟨rfl, HB9.out⟩
              · rw [hp] at hC
                rw [List.length_map, HMl.out] at hjj
                have HC5 := hide hC
                clear hC hcaps hp
                go_wp2_with fail
                refine HC5.out.mono ?_
                rintro e w9 ⟨u9, ds9, rfl, hd9, hm9, hb9⟩
                have HB9 := hide (kl_step hb9 HB8.out)
                have HM9 := hide ((HM8.out.below hb9).cut jj (Nat.le_of_lt hjj))
                dsimp only at hm9
                have hl9 : ds9.length = jj := by have h := congrArg List.length hm9; rw [List.length_map, List.length_take, List.length_map, HMl.out, Nat.min_eq_left (Nat.le_of_lt hjj)] at h; exact h
                obtain ⟨ya, yc, hy9⟩ := hd9.row.of_len
                rw [hl9] at hy9
                have HD9 := hide hd9.row
                subst hy9
                have HC6 := hide (fun w' (hb : Below w9.heap.size w9 w') => SameDs_any w' _ _ ds9 (M.take jj) (HD9.out.below hb) (HM9.out.below hb))
                rw [hm9, List.map_take, sameL_refl] at HC6
                clear hd9 hm9 hb9 HC5 hl9
                have hyl : ((jj : Int) < (j : Int)) := by omega
                have hmx : (jj : Int) ≤ mc := by omega
                dsimp only
                go_wp2_with fail
                refine (HC6.out w9 (Below.refl _ _)).mono ?_
                rintro e w10 ⟨rfl, hb10⟩
                have HB10 := hide (kl_step hb10 HB9.out)
                go_wp2
                go_ret
                exact ⟨rfl, HB10.out⟩
  · rw [decide_eq_false h1] at HFW
    clear h1
    go_enter Try.func4, Try.ntmps4
    go_wp2_with fail
    refine HFW.out.mono ?_
    rintro e w1 ⟨rfl, hb1⟩
    have HB1 := hide hb1
    clear hb1 HFW
    go_wp2_with fail
    refine (HAW.out w1).mono ?_
    rintro e w3 ⟨rfl, hb3⟩
    have HB3 := hide (kl_step hb3 HB1.out)
    go_wp2
    go_ret
    exact ⟨rfl, HB3.out⟩
end Go.Proofs.Ytgkmgpjhpplkiaa
