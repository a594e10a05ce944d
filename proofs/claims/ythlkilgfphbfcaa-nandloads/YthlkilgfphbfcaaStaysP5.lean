/-
  Plain matter of garretlaw05.NandStays: rows of slices; pages one behind the other.
-/
import Derived.Test.YthlkilgfphbfcaaTornP5
import Derived.Test.YthlkilgfphbfcaaGeoO5
import Derived.Test.YthlkilgfphbfcaaDrawn
namespace Go.Proofs.Ythlkilgfphbfcaa
open Go.RowKit
set_option linter.unusedVariables false
set_option maxRecDepth 100000

theorem infoSl : (Try.prog.info? 43).map (fun i => (i.zero, i.size, i.bytes)) = some (some (.slice none 0 0), 1, 24) := by kernel_rfl
/-- A row of slices that the call owns. -/
def VOwn (base : Nat) (w : World) (v : Value) (us : List Value) : Prop := w.ownsRow base 43 1 v us.length us ∧ ∀ u ∈ us, ∃ a n c, u = .slice a n c
theorem VOwn.nil (base : Nat) (w : World) : VOwn base w (.slice none 0 0) [] := ⟨World.ownsRow_nil _ _ _ _, fun u h => by cases h⟩
theorem VOwn.only {l : List Nat} {base : Nat} {w w' : World} {v : Value} {us : List Value} (h : VOwn base w v us) (hg : Only l w w') (hne : ∀ k, v.ownBlock = some k → k ∉ l) : VOwn base w' v us := by
  refine ⟨⟨h.1.1, ?_⟩, h.2⟩
  rcases h.1.2 with hn | ⟨g, cap, cur, hv, hb, hh, r⟩
  · exact .inl hn
  · have hlt := (h.1.lt g (by rw [hv]; rfl)).2
    exact .inr ⟨g, cap, cur, hv, hb, (hg.block g hlt (hne g (by rw [hv]; rfl))).trans hh, r⟩
theorem VOwn.block {base : Nat} {w : World} {v : Value} {us : List Value} (h : VOwn base w v us) : ∀ k, v.ownBlock = some k → base ≤ k ∧ k < w.heap.size := h.1.lt
theorem VOwn.form {base : Nat} {w : World} {v : Value} {us : List Value} (h : VOwn base w v us) (h0 : 0 < us.length) : ∃ g cap, v = .slice (some ⟨g, 0, none⟩) us.length cap ∧ base ≤ g ∧ g < w.heap.size ∧ us.length ≤ cap := by
  rcases h.1.2 with ⟨_, hn⟩ | ⟨g, cap, cur, hv, hbg, hg, hnc, hcm, hcs, htake⟩
  · omega
  · exact ⟨g, cap, hv, hbg, (h.1.lt g (by rw [hv]; rfl)).2, hnc⟩
theorem VOwn.cellAt {base : Nat} {w : World} {g n cap : Nat} {us : List Value} (h : VOwn base w (.slice (some ⟨g, 0, none⟩) n cap) us) {j : Nat} {u : Value} (hj : us[j]? = some u) : w.cell? ⟨g, j, none⟩ = some u := by
  have := h.1.cells (g := g) rfl j u hj
  rwa [Addr.add_lit, Nat.zero_add] at this
theorem VOwn.len {base : Nat} {w : World} {v : Value} {us : List Value} (h : VOwn base w v us) : ∃ ao cap, v = .slice ao us.length cap := by
  rcases h.1.2 with ⟨rfl, hn⟩ | ⟨g, cap, cur, hv, _⟩
  · exact ⟨none, 0, by rw [hn]⟩
  · exact ⟨_, cap, hv⟩
/-- A block with a slice in its first cell. -/
def SlBlk (w : World) (g : Nat) : Prop := ∃ a n c, w.cell? ⟨g, 0, none⟩ = some (.slice a n c)
theorem VOwn.sl {base : Nat} {w : World} {v : Value} {us : List Value} (h : VOwn base w v us) (h0 : 0 < us.length) : ∀ k, v.ownBlock = some k → SlBlk w k := by
  intro k hk
  obtain ⟨g, cap, rfl, _⟩ := h.form h0
  cases hk
  obtain ⟨a, n, c, e⟩ := h.2 us[0] (List.getElem_mem _)
  exact ⟨a, n, c, by rw [h.cellAt (List.getElem?_eq_getElem h0), e]⟩
theorem Row.notSl {w : World} {g n cap : Nat} {xs : List Int} (h : Row w (.slice (some ⟨g, 0, none⟩) n cap) xs) (h0 : 0 < xs.length) (hs : SlBlk w g) : False := by
  obtain ⟨b, off, cap', hv, _, _, hc⟩ := h.at (List.length_pos_iff.1 h0)
  simp at hv
  obtain ⟨⟨rfl, rfl⟩, _⟩ := hv
  obtain ⟨a, n', c, hs⟩ := hs
  have := hc 0 h0
  rw [Nat.add_zero, hs] at this
  cases this
/-- A block of slices turns: the device stays. -/
theorem KeptD.slices {w0 : World} {base m g : Nat} {w w' : World} {L : DLay} {S : PSt} {N : DSt} (h : KeptD w0 base w L S N m) (hs : SlBlk w g) (hO : Only [g] w w') (hg : base ≤ g) (hmb : L.mb < base) (hmo : L.mo ≠ some g) : KeptD w0 base w' L S N m := by
  obtain ⟨b1, b2, b3, b4⟩ := h.dev.chip.lt
  obtain ⟨f, hf, hpg⟩ := h.dev.chip.pgs
  have hw := h.wb
  refine ⟨⟨h.dev.pow.only hO (by simp; omega) (fun k hk => by simp; rintro rfl; exact hmo hk), ⟨h.dev.chip.blk.only hO (by simp; omega), h.dev.chip.nxt.only hO (by simp; omega), h.dev.chip.ers.only hO (by simp; omega), ⟨f, hf.only hO (by simp; omega), ⟨?_, hpg.non, hpg.inj⟩⟩, h.dev.chip.lt, h.dev.chip.ne⟩, h.dev.mo⟩, h.lo, Nat.le_trans h.size hO.size, h.wb, hO.below h.below (by simp; omega) (Nat.le_trans h.wb h.size)⟩
  intro i k v hi hk hv
  obtain ⟨q, cap, rfl, ho, hn, hx⟩ := hpg.own i k v hi hk hv
  refine ⟨q, cap, rfl, ho.only hO (fun j hj hm => ?_), hn, hx⟩
  cases hj
  simp at hm
  subst hm
  obtain ⟨_, _, _, hl⟩ := ho.at0 q 0 _ _ rfl
  rename_i hlen
  exact ho.row.notSl (by omega) hs

theorem run_append_vals {w : World} (ty : TypeId) (base : Nat) (v : Value) (us : List Value) (hown : VOwn base w v us) (b cap : Nat) (u : Value) (hu : ∃ a n c, u = .slice a n c) (hc : w.cell? ⟨b, 0, none⟩ = some u) (hl : us.length ≤ 1000000) (hbase : base ≤ w.heap.size) :
    ∃ v' w', (Builtin.append_ #[61, 61] ty #[v, .slice (some ⟨b, 0, none⟩) 1 cap]).run Try.prog w = .ok v' w' ∧ VOwn base w' v' (us ++ [u]) ∧ w.grownBy w' v.ownBlock := by
  obtain ⟨i0, hi, hz0, hz1, hz2⟩ := info_parts infoSl
  obtain ⟨a, n, c, rfl⟩ := hu
  obtain ⟨v', w', hrun, r1, r2, _⟩ := run_append_own (P := Try.prog) (w := w) base 61 ty 43 i0 (.slice none 0 0) 1 24 Try.underlying61 hi hz0 hz1 hz2 rfl (by decide) v _ _ hown.1 ⟨b, 0, none⟩ 1 cap [.slice a n c] (by simp) (fun j x hx => by
    match j, hx with
    | 0, hx => simp at hx; subst hx; simpa [Addr.add_lit] using hc
    | j + 1, hx => simp at hx) (by simp [Value.oneCell']) (by unfold maxLen; omega) (by omega) hbase
  refine ⟨v', w', hrun, ⟨by rw [List.length_append]; exact r1, ?_⟩, r2⟩
  intro x hx
  rcases List.mem_append.1 hx with h' | h'
  · exact hown.2 x h'
  · simp at h'; exact ⟨_, _, _, h'⟩
theorem step_append_vals {ops : Array Oper} {o : Oper} {a : Act} {w : World} {K : Act → World → Prop} {Q : Exit → Act → World → Prop} {E : Prop} (hw : Region.wanted o (yielded ops a.tmps) = true) (s x : Operand)
    (ho : o.op = .call { callee := .builtin .append, args := #[s, x], argTypes := #[61, 61] })
    (base : Nat) (v : Value) (us : List Value) (b cap : Nat) (u : Value) (hs : a.eval s = v) (hown : VOwn base w v us) (hx : a.eval x = .slice (some ⟨b, 0, none⟩) 1 cap) (hu : ∃ a n c, u = .slice a n c) (hc : w.cell? ⟨b, 0, none⟩ = some u) (hl : us.length ≤ 1000000) (hbase : base ≤ w.heap.size)
    (hK : ∀ v' w', VOwn base w' v' (us ++ [u]) → w.grownBy w' v.ownBlock → K (a.put o.dst v') w') : if Region.wanted o (yielded ops a.tmps) = true then Oper.wp Try.prog o a w K Q else E := by
  rw [if_pos hw]
  obtain ⟨v', w', hrun, r1, r2⟩ := run_append_vals o.type base v us hown b cap u hu hc hl hbase
  unfold Oper.wp
  simp [execOp, ho, resolve, invoke, builtin, hs, hx, hrun, Result.andThen]
  exact hK v' w' r1 r2

/-! ### arguments: rows of rows -/
structure RB where
  v : Value
  xs : List Int
instance : Inhabited RB := ⟨⟨.slice none 0 0, []⟩⟩
def RB.cells (o : RB) : List Value := [o.v]
theorem NandStays_open1 (w : World) : Opens Try.prog w 61 (fun cs => ∃ v xs, cs = [v] ∧ Seq w 1 RB.cells v xs ∧ ∀ o ∈ xs, IRow .u8 w o.v o.xs) := by
  have hL : Opens Try.prog w 43 _ := opens_ints Try.underlying43 Try.underlying5 (by kernel_rfl)
  have h := opens_slice Try.underlying61 RB.cells (fun o => IRow .u8 w o.v o.xs) (hL.mono (fun cs ⟨v, xs, e, r⟩ => ⟨⟨v, xs⟩, e, r⟩))
  rwa [show Try.prog.cellsOf 43 = 1 from by kernel_rfl] at h

/-! ### pages one behind the other -/
def stX (E : Nat) (xs : List (List Int)) (q : Nat) : List Int := fitS (xs.getD q []) E
def stY (q : Nat) : List Int := fitS [((q : Int) % 256)] 16
/-- i pages are programmed. -/
structure Laid (N : DSt) (xs : List (List Int)) (i : Nat) : Prop where
  nx : ∀ b, b < N.C → N.nx.getD b 0 = ((min N.D (i - b * N.D) : Nat) : Int)
  pg : ∀ q, q < i → N.pg (q / N.D) (q % N.D) = stX N.E xs q ++ stY q
theorem stX_length (E : Nat) (xs : List (List Int)) (q : Nat) : (stX E xs q).length = E := fitS_length _ _
theorem stY_length (q : Nat) : (stY q).length = 16 := fitS_length _ _
theorem stY_bys (q : Nat) : Bys (stY q) := fitS_bys (fun x hx => by simp at hx; omega) _
theorem stY_head (q : Nat) : (stY q).getD 0 0 = (q : Int) % 256 := by simp [stY, fitS]
theorem Laid.next {N : DSt} {xs : List (List Int)} {i n : Nat} (h : Laid N xs i) (ok : N.Ok n) (hi : i < N.C * N.D) : i / N.D < N.C ∧ i % N.D < N.D ∧ ((i % N.D : Nat) : Int) = N.nx.getD (i / N.D) 0 := by
  have hD : 0 < N.D := by have := ok.D0; omega
  have h1 : i / N.D < N.C := Nat.div_lt_of_lt_mul (by rw [Nat.mul_comm]; exact hi)
  have h2 := Nat.mod_lt i hD
  have h3 := Nat.div_add_mod i N.D
  refine ⟨h1, h2, ?_⟩
  rw [h.nx _ h1]
  congr 1
  rw [Nat.mul_comm] at h3
  omega
theorem Laid.more {N : DSt} {xs : List (List Int)} {i n : Nat} (h : Laid N xs i) (ok : N.Ok n) (hi : i < N.C * N.D) : Laid (N.put (i / N.D) (i % N.D) (stX N.E xs i ++ stY i)) xs (i + 1) := by
  obtain ⟨h1, h2, h3⟩ := h.next ok hi
  have hD : 0 < N.D := by omega
  have hdm := Nat.div_add_mod i N.D
  have hlen : (stX N.E xs i ++ stY i).length = N.E + 16 := by rw [List.length_append, stX_length, stY_length]
  constructor
  · intro b hb
    have hb' : b < N.C := hb
    show (N.nx.set (i / N.D) _).getD b 0 = ((min N.D (i + 1 - b * N.D) : Nat) : Int)
    rw [Nat.mul_comm] at hdm
    by_cases e : i / N.D = b
    · subst e
      rw [getD_set_same _ _ _ (by rw [ok.nl]; exact hb'), ← h3]
      omega
    · rw [getD_set_ne _ _ _ _ e, h.nx b hb']
      congr 1
      rcases Nat.lt_or_gt_of_ne e with h' | h'
      · have := q_apart (z := N.D) h'
        omega
      · have := q_apart (z := N.D) h'
        omega
  · intro q hq
    show (N.put (i / N.D) (i % N.D) (stX N.E xs i ++ stY i)).pg (q / N.D) (q % N.D) = stX N.E xs q ++ stY q
    by_cases e : q = i
    · subst e
      exact put_pg_same ok h1 h2 hlen
    · have hqi : q < i := by omega
      have hq1 : q / N.D < N.C := Nat.div_lt_of_lt_mul (by rw [Nat.mul_comm]; omega)
      rw [put_pg_other ok h1 h2 hq1 (Nat.mod_lt q hD) (fun e2 => e (by
        have d1 := Nat.div_add_mod q N.D
        rw [e2.1, e2.2] at d1
        omega)) hlen]
      exact h.pg q hqi
theorem laid_new {A B : Int} {C D E : Nat} (xs : List (List Int)) : Laid (DSt.new A B C D E) xs 0 := by
  refine ⟨fun b hb => ?_, fun q hq => by omega⟩
  show (List.replicate C (0 : Int)).getD b 0 = ((min D (0 - b * D) : Nat) : Int)
  rw [getD_rep _ _ _ (show b < C from hb)]
  simp
theorem read_laid {N : DSt} {xs : List (List Int)} {n i q b : Nat} (h : Laid N xs n) (ok : N.Ok i) (hn : n ≤ N.C * N.D) (hq : q < n) (hb : b < N.C) :
    readD ((N.wipe b 255).count b) ((q / N.D : Nat) : Int) ((q % N.D : Nat) : Int) = if q / N.D = b then (0, List.replicate N.E 255, List.replicate 16 255) else (0, stX N.E xs q, stY q) := by
  have hD : 0 < N.D := by have := ok.D0; omega
  have hq1 : q / N.D < N.C := Nat.div_lt_of_lt_mul (by rw [Nat.mul_comm]; omega)
  have hq2 := Nat.mod_lt q hD
  have ha := ok.at_le hq1 hq2
  have hpg : (N.wipe b 255).pg (q / N.D) (q % N.D) = if q / N.D = b then List.replicate (N.E + 16) 255 else stX N.E xs q ++ stY q := by
    rw [← tear_all, tear_pg ok 255 hb (Nat.le_refl _) hq1 hq2]
    by_cases e : q / N.D = b
    · rw [if_pos ⟨e, hq2⟩, if_pos e]
      exact map_all_255 (ok.pgLen hq1 hq2) (pgs_bys ok.bys _ _)
    · rw [if_neg (fun h => e h.1), if_neg e]
      exact h.pg q hq
  have hlen : ((N.wipe b 255).count b).bs.length = N.bs.length := fill_length _ _ _ _
  have e1 := pgs_take ((N.wipe b 255).count b).bs (N.at (q / N.D) (q % N.D)) N.E 16 (by rw [hlen]; exact ha)
  have e2 := pgs_drop ((N.wipe b 255).count b).bs (N.at (q / N.D) (q % N.D)) N.E 16 (by rw [hlen]; exact ha)
  have hpg' : pgs ((N.wipe b 255).count b).bs (N.at (q / N.D) (q % N.D)) (N.E + 16) = if q / N.D = b then List.replicate (N.E + 16) 255 else stX N.E xs q ++ stY q := hpg
  rw [hpg'] at e1 e2
  have h0 : isP ((N.wipe b 255).count b) ((q / N.D : Nat) : Int) ((q % N.D : Nat) : Int) = true := by
    unfold isP
    apply decide_eq_true
    refine ⟨⟨Int.natCast_nonneg _, ?_⟩, Int.natCast_nonneg _, ?_⟩
    · show _ < ((N.C : Nat) : Int); exact Int.ofNat_lt.2 hq1
    · show _ < ((N.D : Nat) : Int); exact Int.ofNat_lt.2 hq2
  unfold readD
  rw [h0, if_pos rfl, Int.toNat_natCast, Int.toNat_natCast]
  show (0, pgs ((N.wipe b 255).count b).bs (N.at (q / N.D) (q % N.D)) N.E, pgs ((N.wipe b 255).count b).bs (N.at (q / N.D) (q % N.D) + N.E) 16) = _
  rw [← e1, ← e2]
  by_cases e : q / N.D = b
  · rw [if_pos e, if_pos e, List.take_replicate, List.drop_replicate, Nat.min_eq_left (by omega), Nat.add_sub_cancel_left]
  · rw [if_neg e, if_neg e, List.take_left' (stX_length _ _ _), List.drop_left' (stX_length _ _ _)]
/-! ### a geometry in a block -/
/-- What a region holds of it. -/
abbrev HoldD (W : World) (s : Nat) (a b c d e : Int) (w : World) : Prop :=
  (w.cell? ⟨s, 0, none⟩ = some (.int .i64 a) ∧ w.cell? ⟨s, 1, none⟩ = some (.int .i64 b) ∧ w.cell? ⟨s, 2, none⟩ = some (.int .i64 c) ∧ w.cell? ⟨s, 3, none⟩ = some (.int .i64 d) ∧ w.cell? ⟨s, 4, none⟩ = some (.int .i64 e)) ∧ (Blk w s (gcells a b c d e) 23 ∧ Below W.heap.size W w)
theorem holdD_of {W w : World} {s : Nat} {a b c d e : Int} (h : Blk w s (gcells a b c d e) 23) (hb : Below W.heap.size W w) : HoldD W s a b c d e w :=
  ⟨⟨(h.cell 0).trans rfl, (h.cell 1).trans rfl, (h.cell 2).trans rfl, (h.cell 3).trans rfl, (h.cell 4).trans rfl⟩, h, hb⟩
theorem holdD_below {W : World} {s : Nat} {a b c d e : Int} {w w' : World} (hb : Below w.heap.size w w') (h : HoldD W s a b c d e w) : HoldD W s a b c d e w' :=
  holdD_of (h.2.1.below hb h.2.1.lt) (h.2.2.trans (hb.mono h.2.2.size))
theorem holdD_drew {W : World} {s : Nat} {a b c d e : Int} {w : World} (h : HoldD W s a b c d e w) : HoldD W s a b c d e w.drew := holdD_below (Below.refl _ _).drew h
theorem NewB_any (w : World) : Calls Try.prog 9 #[] w fun e w' => e = .returned (.pointer (some ⟨w.heap.size, 0, none⟩)) ∧ Below w.heap.size w w' ∧ Hid (w' = w.alloc (.cells (pcells PSt.zero none) 69)) :=
  (New_any w).mono (by rintro e w' ⟨rfl, rfl⟩; exact ⟨rfl, (Below.refl _ _).alloc (Nat.le_refl _) _, rfl⟩)
theorem wf_of_right {A : Nat} {B : Int} {C D E : Int} (hr : rightS A B C D E = true) : (Lit.int .i64 (A : Int)).wf = true := by
  have hu := rightS_of hr
  exact wf_i64 (by omega) (by omega)
end Go.Proofs.Ythlkilgfphbfcaa
