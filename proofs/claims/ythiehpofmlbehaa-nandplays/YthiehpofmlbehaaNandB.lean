/-
  The contracts of package nand: a page is programmed, and read.
-/
import Derived.Test.YthiehpofmlbehaaNandA
namespace Go.Proofs.Ythiehpofmlbehaa
open Go.RowKit
set_option linter.unusedVariables false
set_option maxRecDepth 100000

theorem wpList_mapUpdate_run {P : Program} {w : World} {ops : Array Oper} {rest : List Oper} {o : Oper} {a : Act} {Q : Exit → Act → World → Prop} (hg : o.guard = none) (m x v : Operand) (t : TypeId) (hop : o.op = Op.mapUpdate t m x v)
    (mv key val : Value) (hm : a.eval m = mv) (hx : a.eval x = key) (hv : a.eval v = val) {w' : World} (hrun : (Instr.mapUpdate t mv key val).run P w = .ok () w') (hK : wpList P ops Q rest (a.put o.dst undef) w') :
    wpList P ops Q (o :: rest) a w := by
  refine wpList_plain hg fun K' hK' => ?_
  unfold Oper.wp
  simp [execOp, hop, hm, hx, hv, hrun, Result.andThen]
  exact hK' _ _ hK

theorem put_pg_same {N : DSt} {n : Nat} (ok : N.Ok n) {i k : Nat} (hi : i < N.C) (hk : k < N.D) {xs : List Int} (hl : xs.length = N.E + 16) : (N.put i k xs).pg i k = xs := by
  have ha := ok.at_le hi hk
  refine pgs_eq (by show _ ≤ (splice N.bs (N.at i k) xs).length; rw [length_splice _ _ _ (by omega)]; exact ha) hl (fun j hj => ?_)
  show (splice N.bs (N.at i k) xs).getD (N.at i k + j) 0 = _
  have hj' : j < N.E + 16 := hj
  rw [splice_at (by omega), if_pos (by omega), Nat.add_sub_cancel_left]
theorem put_pg_other {N : DSt} {n : Nat} (ok : N.Ok n) {i k i' k' : Nat} (hi : i < N.C) (hk : k < N.D) (hi' : i' < N.C) (hk' : k' < N.D) (hne : ¬ (i' = i ∧ k' = k)) {xs : List Int} (hl : xs.length = N.E + 16) : (N.put i k xs).pg i' k' = N.pg i' k' := by
  have ha := ok.at_le hi hk
  have ha' := ok.at_le hi' hk'
  refine pgs_ext (by show _ ≤ (splice N.bs (N.at i k) xs).length; rw [length_splice _ _ _ (by omega)]; exact ha') ha' (fun j hj => ?_)
  show (splice N.bs (N.at i k) xs).getD (N.at i' k' + j) 0 = _
  have hj' : j < N.E + 16 := hj
  have hap := DSt.apart (N := N) hk' hk hne
  rw [splice_at (by omega), if_neg (by omega)]
theorem getD_set_same (xs : List Int) (i : Nat) (y : Int) (h : i < xs.length) : (xs.set i y).getD i 0 = y := by rw [getD_set, if_pos ⟨rfl, h⟩]
theorem getD_set_ne (xs : List Int) (i j : Nat) (y : Int) (h : i ≠ j) : (xs.set i y).getD j 0 = xs.getD j 0 := by rw [getD_set, if_neg (fun e => h e.1)]

/-- A page is there. -/
theorem NDev.programmed {base m n g cap : Nat} {w w3 w4 : World} {L : DLay} {S : PSt} {N : DSt} {f : Nat → Nat → Option Value} {xs : List Int} {i k : Nat} (h : NDev base w L S N m) (ok : N.Ok n) (hi : i < N.C) (hk : k < N.D) (hnx : (k : Int) = N.nx.getD i 0)
    (hB : Below w.heap.size w w3) (hsz : base ≤ w.heap.size) (ho : Own w.heap.size w3 (.slice (some ⟨g, 0, none⟩) (N.E + 16) cap) xs) (hl : xs.length = N.E + 16) (hp0 : Pages base w L N f)
    (h4 : PgMap w4 L.mb (m + 1) (put2 f i k (some (.slice (some ⟨g, 0, none⟩) (N.E + 16) cap)))) (hg : w3.grownBy w4 (some L.mb)) :
    NDev base (w4.setCell ⟨L.nb, i, none⟩ (.int .i64 (N.nx.getD i 0 + 1))) L S (N.put i k xs) (m + 1) ∧ Only [L.mb, L.nb] w (w4.setCell ⟨L.nb, i, none⟩ (.int .i64 (N.nx.getD i 0 + 1))) := by
  have h3 := h.below' hB
  have hp : Pages base w3 L N f := hp0.only (l := []) (only_below hB) (by simp)
  have hO4 : Only [L.mb, L.nb] w3 w4 := only_grown hg (fun k e => by cases e; simp)
  have hO5 : Only [L.mb, L.nb] w4 (w4.setCell ⟨L.nb, i, none⟩ (.int .i64 (N.nx.getD i 0 + 1))) := only_setCell _ _ _ _ _ (by simp)
  have hO : Only [L.mb, L.nb] w3 (w4.setCell ⟨L.nb, i, none⟩ (.int .i64 (N.nx.getD i 0 + 1))) := hO4.trans hO5
  have hO4' : Only [L.mb] w3 w4 := only_grown hg (fun k e => by cases e; simp)
  have hO5' : Only [L.nb] w4 (w4.setCell ⟨L.nb, i, none⟩ (.int .i64 (N.nx.getD i 0 + 1))) := only_setCell _ _ _ _ _ (by simp)
  obtain ⟨⟨n1, n2, n3, n4, n5, n6⟩, m1, m2, m3, m4⟩ := h.chip.ne
  obtain ⟨l1, l2, l3, l4⟩ := h.chip.lt
  have hgs := ho.block g rfl
  have hmbl := (h.chip.pgs.choose_spec.1).lt
  have hmo := h.mo
  have hmolt : ∀ q, L.mo = some q → q < w.heap.size := by
    intro q hq
    rcases h.pow.map with ⟨e, _⟩ | ⟨b, e, _, hown, _⟩
    · rw [hq] at e; cases e
    · rw [hq] at e; cases e; exact hown.lt
  refine ⟨⟨h3.pow.only hO (by simp; omega) (fun q hq => by have := hmo q hq; simp; omega), ⟨?_, ?_, ?_, ⟨_, h4.only hO5' (by simp; omega), ?_⟩, h.chip.lt, h.chip.ne⟩, h.mo⟩, ?_⟩
  · exact h3.chip.blk.only hO (by simp; omega)
  · exact (h3.chip.nxt.only hO4' (by simp; omega)).setI5 i _
  · exact h3.chip.ers.only hO (by simp; omega)
  · have hnl := ok.nl
    have hps := hp.only hO (fun q hq => by simp at hq; rcases hq with rfl | rfl; exact .inr (.inl rfl); exact .inl l3)
    refine ⟨?_, ?_, ?_⟩
    · intro a b v ha hb hv
      unfold put2 at hv
      by_cases e : a = i ∧ b = k
      · rw [if_pos e] at hv
        obtain ⟨rfl, rfl⟩ := e
        cases hv
        refine ⟨g, cap, rfl, ?_, ⟨by omega, fun e => by have := hmolt g e; omega⟩, ?_⟩
        · rw [put_pg_same ok hi hk hl]
          exact (ho.only hO (fun q hq => by cases hq; simp; omega)).mono hsz
        · show (b : Int) < (N.nx.set a (N.nx.getD a 0 + 1)).getD a 0
          rw [getD_set_same _ _ _ (by omega)]
          omega
      · rw [if_neg e] at hv
        obtain ⟨g', cap', rfl, ho', hn', hx'⟩ := hps.own a b v ha hb hv
        refine ⟨g', cap', rfl, ?_, hn', ?_⟩
        · rw [put_pg_other ok hi hk ha hb e hl]
          exact ho'
        · show (b : Int) < (N.nx.set i (N.nx.getD i 0 + 1)).getD a 0
          by_cases e2 : i = a
          · subst e2
            rw [getD_set_same _ _ _ (by omega)]
            omega
          · rw [getD_set_ne _ _ _ _ e2]
            exact hx'
    · intro a b ha hb hv
      unfold put2 at hv
      by_cases e : a = i ∧ b = k
      · rw [if_pos e] at hv; cases hv
      · rw [if_neg e] at hv
        rw [put_pg_other ok hi hk ha hb e hl]
        exact hps.non a b ha hb hv
    · intro a b a' b' g0 n0 c0 n0' c0' ha hb ha' hb' hv hv'
      unfold put2 at hv hv'
      have hold : ∀ x y nn cc, x < N.C → y < N.D → f x y = some (.slice (some ⟨g, 0, none⟩) nn cc) → False := by
        intro x y nn cc hx hy hf
        obtain ⟨g', cap', e, ho', _⟩ := hp0.own x y _ hx hy hf
        have := ho'.block g rfl
        omega
      by_cases e : a = i ∧ b = k
      · rw [if_pos e] at hv
        cases hv
        by_cases e' : a' = i ∧ b' = k
        · omega
        · rw [if_neg e'] at hv'
          exact (hold _ _ _ _ ha' hb' hv').elim
      · rw [if_neg e] at hv
        by_cases e' : a' = i ∧ b' = k
        · rw [if_pos e'] at hv'
          cases hv'
          exact (hold _ _ _ _ ha hb hv).elim
        · rw [if_neg e'] at hv'
          exact hp.inj a b a' b' g0 n0 c0 n0' c0' ha hb ha' hb' hv hv'
  · exact (only_below hB).trans hO

theorem pgs_take (bs : List Int) (p a b : Nat) (h : p + (a + b) ≤ bs.length) : (pgs bs p (a + b)).take a = pgs bs p a := by
  rw [pgs_split, List.take_left' (pgs_length (by omega))]
theorem pgs_drop (bs : List Int) (p a b : Nat) (h : p + (a + b) ≤ bs.length) : (pgs bs p (a + b)).drop a = pgs bs (p + a) b := by
  rw [pgs_split, List.drop_left' (pgs_length (by omega))]
/-- The bytes of a row from a place on. -/
theorem Row.dropped {w : World} {g off n cap : Nat} {xs : List Int} (h : Row w (.slice (some ⟨g, off, none⟩) n cap) xs) (k : Nat) (hk : k ≤ n) : Row w (.slice (some ⟨g, off + k, none⟩) (n - k) (cap - k)) (xs.drop k) := by
  obtain ⟨h1, h2, h3⟩ := h.caps
  have hb := h.bys
  obtain ⟨ao, cap', hv, _, _, _, hc, _⟩ := h
  simp at hv
  obtain ⟨rfl, _, rfl⟩ := hv
  have hl : (xs.drop k).length = n - k := by simp; omega
  have := Row.mk (w := w) (b := g) (off := off + k) (cap := cap - k) (xs := xs.drop k) (by omega) (by omega) (fun i hi => by
    have hc2 := hc _ rfl (k + i) _ (bv_at (by omega))
    rw [Addr.add_lit] at hc2
    rw [show off + k + i = off + (k + i) from by omega, hc2]
    simp [List.getD]) (hb.drop k)
  rwa [hl] at this

theorem step_not_both5 (S : PSt) (h : S.step.1 = true) : S.step.2.1 = false := by
  unfold PSt.step at *
  split <;> simp_all
  split <;> simp_all

set_option maxHeartbeats 4000000 in
theorem Program5_any (base : Nat) (w : World) (L : DLay) (S : PSt) (N : DSt) (m n : Nat) (h : NDev base w L S N m) (okS : S.Ok n) (ok : N.Ok n) (hn : n < 800000) (hm : m < 800000) (hsz : base ≤ w.heap.size) (b p : Int) (hb : (Lit.int .i64 b).wf = true) (hp : (Lit.int .i64 p).wf = true)
    (dv sv : Value) (d s : List Int) (hd : Row w dv d) (hs : Row w sv s) (hdp : 0 < d.length → ∀ g off n cap, dv = .slice (some ⟨g, off, none⟩) n cap → g ≠ L.pb) (hsp : 0 < s.length → ∀ g off n cap, sv = .slice (some ⟨g, off, none⟩) n cap → g ≠ L.pb) :
    Calls Try.prog 21 #[.pointer (some ⟨L.c, 0, none⟩), .int .i64 b, .int .i64 p, dv, sv] w fun e w' =>
      e = .returned (.int .i64 (progD S N b p d s).1) ∧ NDev base w' L (progD S N b p d s).2.1 (progD S N b p d s).2.2 (m + 1) ∧ Only [L.pb, L.mb, L.nb] w w' := by
  have hP := isPage_any base w L N m n h.chip ok b p hb
  have hmore : NDev base w L S N (m + 1) := by
    obtain ⟨f, h1, h2⟩ := h.chip.pgs
    exact ⟨h.pow, ⟨h.chip.blk, h.chip.nxt, h.chip.ers, ⟨f, h1.more (by omega), h2⟩, h.chip.lt, h.chip.ne⟩, h.mo⟩
  have c4 := h.chip.blk.cell 4
  have c5 := h.chip.blk.cell 5
  have c7 := h.chip.blk.cell 7
  simp [dcells] at c4 c5 c7
  have hE1 := ok.E1
  have hdl := hd.len
  have hsl := hs.len
  unfold maxLen at hdl hsl
  obtain ⟨da, dcap, rfl⟩ := hd.of_len
  obtain ⟨sa, scap, rfl⟩ := hs.of_len
  by_cases h0 : isP N b p = true
  · rw [h0] at hP
    have hu := isP_of h0
    by_cases h1 : d.length = N.E
    · by_cases h2 : s.length = 16
      · obtain ⟨i, rfl⟩ := Int.eq_ofNat_of_zero_le hu.1.1
        obtain ⟨k, rfl⟩ := Int.eq_ofNat_of_zero_le hu.2.1
        have hi : i < N.C := by omega
        have hk : k < N.D := by omega
        have ci := h.chip.nextAt (j := i) (by rw [ok.nl]; omega)
        have hpr : progD S N i k d s = if (k : Int) = N.nx.getD i 0 then
            (if S.step.1 then
              (if S.step.2.2.failed then (7, S.step.2.2, N.put i k ((d ++ s).map (fun x => bits .and .u8 x 170))) else (0, S.step.2.2, N.put i k (d ++ s)))
              else if S.step.2.1 then (6, S.step.2.2, N.put i k ((d ++ s).map (fun x => bits .or .u8 x S.step.2.2.mask))) else (6, S.step.2.2, N))
            else (8, S, N) := by
          unfold progD
          rw [h0, decide_eq_true h1, decide_eq_true h2]
          simp
        by_cases h3 : (k : Int) = N.nx.getD i 0
        · rw [hpr, if_pos h3]
          have hst := StepE_any w L.pb L.mo S n h.pow okS (by omega)
          have hnb := step_not_both5 S
          have okS' := okS.step
          obtain ⟨⟨done, torn, S'⟩, hS'⟩ : ∃ q, S.step = q := ⟨_, rfl⟩
          rw [hS'] at hst hnb okS' ⊢
          simp only at hst hnb okS' ⊢
          clear hpr hu h0 hS'
          have hiC : (i : Int) < N.C := by omega
          have hne : ((k : Int) != N.nx.getD i 0) = false := by simpa using h3
          have hE0 := ok.E0
          have hdr : ∀ w1, w.grownBy w1 (some L.pb) → Row w1 (.slice da d.length dcap) d ∧ Row w1 (.slice sa s.length scap) s := fun w1 hg =>
            ⟨hd.only (l := [L.pb]) (only_grown hg (fun k e => by cases e; simp)) (fun b off n cap e => by simpa using hdp (by omega) b off n cap e), hs.only (l := [L.pb]) (only_grown hg (fun k e => by cases e; simp)) (fun b off n cap e => by simpa using hsp (by omega) b off n cap e)⟩
          rw [h1, h2] at hdr ⊢
          have HDR := hide hdr
          clear hdr hdp hsp hd hs hdl hsl
          have HL1 := hide h1
          have HL2 := hide h2
          clear h1 h2
          have hnxr := ok.nxAt hi
          have hC1 := ok.C1
          have hD1 := ok.D1
          have hpos : 0 < d.length + s.length := by have := HL1.out; omega
          have hlt6 : d.length + s.length < 1000000 := by have := HL1.out; have := HL2.out; omega
          have hsumE : (d ++ s).length = N.E + 16 := by rw [List.length_append, HL1.out, HL2.out]
          generalize hx : N.nx.getD i 0 = x at *
          have HX := hide hx
          have H3 := hide h3
          clear hx h3
          by_cases hoff : done = false ∧ torn = false
          · obtain ⟨rfl, rfl⟩ := hoff
            simp only [if_false, Bool.false_eq_true]
            go_enter Try.func21, Try.ntmps21
            go_wp2_with fail
            refine hP.mono ?_
            rintro e w0 ⟨rfl, rfl⟩
            go_wp2_with fail
            refine hst.mono ?_
            rintro e w1 ⟨rfl, hP1, hg1⟩
            have h1 := hmore.step hP1 hg1
            go_wp2
            go_ret
            exact ⟨rfl, h1, only_grown hg1 (fun k e => by cases e; simp)⟩
          · have hdt : done = !torn := by cases done <;> cases torn <;> simp_all
            subst hdt
            have hres : (if (!torn) = true then if S'.failed = true then ((7 : Int), S', N.put i k (List.map (fun x => bits .and .u8 x 170) (d ++ s))) else (0, S', N.put i k (d ++ s)) else if torn = true then (6, S', N.put i k (List.map (fun x => bits .or .u8 x S'.mask) (d ++ s))) else (6, S', N)) = (spoilE S' torn, S', N.put i k (spoilX S' torn (d ++ s))) := by
              cases torn <;> simp [spoilE, spoilX] <;> split <;> rfl
            rw [hres]
            have hxl : (spoilX S' torn (d ++ s)).length = N.E + 16 := by
              unfold spoilX; split
              · simpa using hsumE
              · split
                · simpa using hsumE
                · exact hsumE
            clear hres hnb hoff
            simp only
            have hgo : ∀ w1, PowE w1 L.pb L.mo S' → w.grownBy w1 (some L.pb) → _ := fun w1 hP1 hg1 => h.step hP1 hg1
            have HGO := hide hgo
            have HOK := hide ok
            clear hgo ok hmore
            cases torn <;> (
              go_enter Try.func21, Try.ntmps21
              go_wp2_with fail
              refine hP.mono ?_
              rintro e w0 ⟨rfl, rfl⟩
              go_wp2_with fail
              refine hst.mono ?_
              rintro e w1 ⟨rfl, hP1, hg1⟩
              have h1 := HGO.out w1 hP1 hg1
              have hsz1 : base ≤ w1.heap.size := Nat.le_trans hsz hg1.size
              have hO1 : Only [L.pb, L.mb, L.nb] w0 w1 := only_grown hg1 (fun k e => by cases e; simp)
              obtain ⟨hd1, hs1⟩ := HDR.out w1 hg1
              obtain ⟨f, hf, hpg⟩ := h1.chip.pgs
              have hB1 : Below w1.heap.size w1 (w1.alloc (.cells #[.slice da N.E dcap, .slice sa 16 scap] 43)) := (Below.refl _ _).alloc (Nat.le_refl _) _
              have hcat := Concat_any _ w1.heap.size _ _ d s (Blk.new w1 #[.slice da N.E dcap, .slice sa 16 scap] 43) (hd1.below hB1) (hs1.below hB1) hpos hlt6
              clear hst hP1 hg1 hP c4 c5 c7 ci hd1 hs1
              go_wp2_with fail
              refine hcat.mono ?_
              rintro e w2 ⟨r, rfl, hown2, hB2⟩
              have hB12 := hB1.trans (hB2.mono hB1.size)
              have hown2' := hown2.mono (show w1.heap.size ≤ _ from hB1.size)
              obtain ⟨g, cap, rfl, hg1', hg2', hcap'⟩ := hown2'.form (by rw [hsumE]; omega)
              have h2 := h1.below' hB12
              rw [hsumE] at hown2' ⊢
              have hsp := fun t => spoil_any base w1.heap.size w2 L S' N m (n + 1) h2 okS' (by omega) g (N.E + 16) cap (d ++ s) t hown2' hsumE (by omega)
              clear hcat hown2 hB2 hB1
              go_wp2_with fail
              refine (hsp _).mono ?_
              rintro e w3 ⟨rfl, hown3, hg3⟩
              have hB13 : Below w1.heap.size w1 w3 := hB12.grown hg3 hB12.size (fun k e => by cases e; exact hg1')
              have hf3 := hf.only (x := []) (only_below hB13) (by simp)
              obtain ⟨w4, hrun, h4, hg4⟩ := hf3.put (by omega) i k (by omega) (by omega) (.slice (some ⟨g, 0, none⟩) (N.E + 16) cap)
              have hfin := h1.programmed HOK.out hi hk (by rw [HX.out]; exact H3.out) hB13 hsz1 hown3 hxl hpg h4 hg4
              rw [HX.out] at hfin
              have h3' := h1.below' hB13
              have hne3 := h1.chip.ne
              have e6 := h3'.chip.blk.cell 6
              have hO34 : Only [L.mb] w3 w4 := only_grown hg4 (fun k e => by cases e; simp)
              have hb4 := h3'.chip.blk.only hO34 (by simp; omega)
              have hn4 := h3'.chip.nxt.only hO34 (by simp; omega)
              have e7 := hb4.cell 7
              have en := hn4.cell i
              have fn := hn4.frozen i
              rw [List.getElem?_toArray, iv_at (by rw [HOK.out.nl]; exact hi), HX.out] at en
              simp [dcells] at e6 e7
              have HF := hide hfin
              clear hfin hf3 hf hpg hown3 hown2' h2 h1 h4 hg4 hg3 hB13 hB12 h3' hb4 hn4 hO34 hsp
              go_wp2_with (at_mapUpdate; refine wpList_mapUpdate_run rfl _ _ _ _ rfl _ _ _ rfl rfl rfl hrun ?_)
              go_wp2
              go_ret
              exact ⟨rfl, HF.out.1, hO1.trans (HF.out.2.wide (by simp))⟩)
        · rw [hpr, if_neg h3]
          have hne : ((k : Int) != N.nx.getD i 0) = true := by simpa using h3
          have hiC : (i : Int) < N.C := by omega
          rw [h1, h2]
          generalize N.nx.getD i 0 = x at *
          clear hpr hu h0 h1 h2 hdp hsp
          go_enter Try.func21, Try.ntmps21
          go_wp2_with fail
          refine hP.mono ?_
          rintro e w1 ⟨rfl, rfl⟩
          go_wp2
          go_ret
          exact ⟨rfl, hmore, Only.refl _ _⟩
      · have hpr : progD S N b p d s = (1, S, N) := by unfold progD; rw [h0, decide_eq_false h2]; simp
        rw [hpr]
        have hne : ((s.length : Int) != 16) = true := by simp only [bne_iff_ne, ne_eq]; omega
        generalize s.length = sl at *
        rw [h1]
        clear hpr hu h0 h1 h2 hdp hsp
        go_enter Try.func21, Try.ntmps21
        go_wp2_with fail
        refine hP.mono ?_
        rintro e w1 ⟨rfl, rfl⟩
        go_wp2
        go_ret
        exact ⟨rfl, hmore, Only.refl _ _⟩
    · have hpr : progD S N b p d s = (1, S, N) := by unfold progD; rw [h0, decide_eq_false h1]; simp
      rw [hpr]
      have hne : ((d.length : Int) != (N.E : Int)) = true := by simp only [bne_iff_ne, ne_eq]; omega
      generalize d.length = dl at *
      generalize s.length = sl at *
      clear hpr hu h0 h1 hdp hsp
      go_enter Try.func21, Try.ntmps21
      go_wp2_with fail
      refine hP.mono ?_
      rintro e w1 ⟨rfl, rfl⟩
      go_wp2
      go_ret
      exact ⟨rfl, hmore, Only.refl _ _⟩
  · have h0' : isP N b p = false := by simpa using h0
    have hpr : progD S N b p d s = (1, S, N) := by unfold progD; rw [h0']; simp
    rw [hpr]
    rw [h0'] at hP
    generalize d.length = dl at *
    generalize s.length = sl at *
    clear hpr h0 h0' hdp hsp
    go_enter Try.func21, Try.ntmps21
    go_wp2_with fail
    refine hP.mono ?_
    rintro e w1 ⟨rfl, rfl⟩
    go_wp2
    go_ret
    exact ⟨rfl, hmore, Only.refl _ _⟩
end Go.Proofs.Ythiehpofmlbehaa
