/-
  Rows of slices of bytes: those that are read, those that the call owns; append to them; two held against each other.
-/
import Derived.Test.YtgkgbbffgcmekaaBlk
import Derived.Test.YtgkgbbffgcmekaaHelp
import Derived.Test.YtgkgbbffgcmekaaHelp2
import Derived.Test.YtgkgbbffgcmekaaOpen
import Derived.Deep.RegionWith
namespace Go.Proofs.Ytgkgbbffgcmekaa
open Go.RowKit
set_option linter.unusedVariables false
set_option maxRecDepth 100000

theorem infoSl : (Try.prog.info? 38).map (fun i => (i.zero, i.size, i.bytes)) = some (some (.slice none 0 0), 1, 24) := by kernel_rfl

/-- Slices that read these bytes, one by one. -/
def Rows (w : World) (us : List Value) (bss : List (List Int)) : Prop := us.length = bss.length ∧ ∀ (i : Nat) (u : Value) (b : List Int), us[i]? = some u → bss[i]? = some b → Row w u b
theorem Rows.nil (w : World) : Rows w [] [] := ⟨rfl, fun i u b h => by simp at h⟩
theorem Rows.app {w : World} {us vs : List Value} {bss css : List (List Int)} (h : Rows w us bss) (k : Rows w vs css) : Rows w (us ++ vs) (bss ++ css) := by
  refine ⟨by rw [List.length_append, List.length_append, h.1, k.1], fun i u b hu hb => ?_⟩
  rcases Nat.lt_or_ge i us.length with hi | hi
  · rw [List.getElem?_append_left hi] at hu
    rw [List.getElem?_append_left (by rw [← h.1]; exact hi)] at hb
    exact h.2 i u b hu hb
  · rw [List.getElem?_append_right hi] at hu
    rw [List.getElem?_append_right (by rw [← h.1]; exact hi), ← h.1] at hb
    exact k.2 _ u b hu hb
theorem Rows.one {w : World} {u : Value} {b : List Int} (h : Row w u b) : Rows w [u] [b] := by
  refine ⟨rfl, fun i u' b' hu hb => ?_⟩
  match i, hu, hb with
  | 0, hu, hb => simp at hu hb; subst hu hb; exact h
  | i + 1, hu, hb => simp at hu
theorem Rows.take {w : World} {us : List Value} {bss : List (List Int)} (h : Rows w us bss) (k : Nat) : Rows w (us.take k) (bss.take k) := by
  refine ⟨by rw [List.length_take, List.length_take, h.1], fun i u b hu hb => ?_⟩
  rw [List.getElem?_take] at hu hb
  split at hu
  · rename_i hi
    rw [if_pos hi] at hb
    exact h.2 i u b hu hb
  · cases hu
theorem Rows.below {w w' : World} {us : List Value} {bss : List (List Int)} (h : Rows w us bss) (hb : Below w.heap.size w w') : Rows w' us bss := ⟨h.1, fun i u b hu hb' => (h.2 i u b hu hb').below hb⟩
theorem Rows.slices {w : World} {us : List Value} {bss : List (List Int)} (h : Rows w us bss) : ∀ u ∈ us, ∃ a n c, u = .slice a n c := by
  intro u hu
  obtain ⟨i, hi, rfl⟩ := List.getElem_of_mem hu
  have := h.2 i us[i] (bss[i]'(by rw [← h.1]; exact hi)) (List.getElem?_eq_getElem hi) (List.getElem?_eq_getElem (by rw [← h.1]; exact hi))
  obtain ⟨ao, cap, e⟩ := this.of_len
  exact ⟨_, _, _, e⟩
theorem Rows.at {w : World} {us : List Value} {bss : List (List Int)} (h : Rows w us bss) {i : Nat} (hi : i < bss.length) : ∃ u, us[i]? = some u ∧ Row w u (bss.getD i []) := by
  have hi' : i < us.length := by rw [h.1]; exact hi
  refine ⟨us[i], List.getElem?_eq_getElem hi', h.2 i _ _ (List.getElem?_eq_getElem hi') ?_⟩
  simp [List.getD, List.getElem?_eq_getElem hi]
theorem Rows.bys {w : World} {us : List Value} {bss : List (List Int)} (h : Rows w us bss) : ∀ b ∈ bss, Bys b := by
  intro b hb
  obtain ⟨i, hi, rfl⟩ := List.getElem_of_mem hb
  exact (h.2 i (us[i]'(by rw [h.1]; exact hi)) _ (List.getElem?_eq_getElem (by rw [h.1]; exact hi)) (List.getElem?_eq_getElem hi)).bys

/-- The slice v reads these values. -/
def Vals (w : World) (v : Value) (us : List Value) : Prop :=
  ∃ ao cap, v = .slice ao us.length cap ∧ us.length ≤ cap ∧ cap ≤ maxLen ∧ (ao = none → cap = 0) ∧ ∀ a, ao = some a → ∀ (j : Nat) (u : Value), us[j]? = some u → w.cell? (a.add j) = some u
theorem Vals.of_len {w : World} {v : Value} {us : List Value} (h : Vals w v us) : ∃ ao cap, v = .slice ao us.length cap := by
  obtain ⟨ao, cap, hv, _⟩ := h; exact ⟨ao, cap, hv⟩
theorem Vals.len {w : World} {v : Value} {us : List Value} (h : Vals w v us) : us.length ≤ maxLen := by
  obtain ⟨_, _, _, h1, h2, _⟩ := h; omega
theorem Vals.at {w : World} {v : Value} {us : List Value} (h : Vals w v us) (h0 : 0 < us.length) :
    ∃ b off cap, v = .slice (some ⟨b, off, none⟩) us.length cap ∧ us.length ≤ cap ∧ b < w.heap.size ∧ ∀ (i : Nat) (u : Value), us[i]? = some u → w.cell? ⟨b, off + i, none⟩ = some u := by
  obtain ⟨ao, cap, rfl, h1, h2, h3, h4⟩ := h
  cases ao with
  | none => have := h3 rfl; omega
  | some a =>
    obtain ⟨b, off, spot⟩ := a
    have hc := h4 _ rfl 0 _ (List.getElem?_eq_getElem h0)
    have hspot : spot = none := by simpa [Addr.add] using World.cell?_spot hc
    subst hspot
    refine ⟨b, off, cap, rfl, h1, World.block_lt_of_cell? w _ (by simpa [Addr.add] using hc), fun i u hi => ?_⟩
    have := h4 _ rfl i _ hi
    simpa [Addr.add_lit] using this
theorem Vals.below {w w' : World} {v : Value} {us : List Value} (h : Vals w v us) (hb : Below w.heap.size w w') : Vals w' v us := by
  obtain ⟨ao, cap, hv, h1, h2, h3, h4⟩ := h
  exact ⟨ao, cap, hv, h1, h2, h3, fun a ha j u hu => (hb.cell (World.block_lt_of_cell? w _ (h4 a ha j u hu))).trans (h4 a ha j u hu)⟩
/-- The first ones. -/
theorem Vals.cut {w : World} {ao : Option Addr} {n cap : Nat} {us : List Value} (h : Vals w (.slice ao n cap) us) (k : Nat) (hk : k ≤ n) : Vals w (.slice ao k cap) (us.take k) := by
  obtain ⟨ao', cap', hv, h1, h2, h3, h4⟩ := h
  simp at hv
  obtain ⟨rfl, rfl, rfl⟩ := hv
  refine ⟨ao, cap, by rw [List.length_take, Nat.min_eq_left hk], by rw [List.length_take]; omega, h2, h3, ?_⟩
  intro a ha j u hu
  rw [List.getElem?_take] at hu
  split at hu
  · exact h4 a ha j u hu
  · cases hu

/-- The slice v reads slices that read these bytes. -/
def VRow (w : World) (v : Value) (bss : List (List Int)) : Prop := ∃ us, Vals w v us ∧ Rows w us bss
theorem VRow.below {w w' : World} {v : Value} {bss : List (List Int)} (h : VRow w v bss) (hb : Below w.heap.size w w') : VRow w' v bss := by
  obtain ⟨us, h1, h2⟩ := h
  exact ⟨us, h1.below hb, h2.below hb⟩
theorem VRow.of_len {w : World} {v : Value} {bss : List (List Int)} (h : VRow w v bss) : ∃ ao cap, v = .slice ao bss.length cap := by
  obtain ⟨us, h1, h2⟩ := h
  rw [← h2.1]
  exact h1.of_len
theorem VRow.len {w : World} {v : Value} {bss : List (List Int)} (h : VRow w v bss) : bss.length ≤ maxLen := by
  obtain ⟨us, h1, h2⟩ := h
  rw [← h2.1]
  exact h1.len
theorem VRow.cut {w : World} {ao : Option Addr} {n cap : Nat} {bss : List (List Int)} (h : VRow w (.slice ao n cap) bss) (k : Nat) (hk : k ≤ n) : VRow w (.slice ao k cap) (bss.take k) := by
  obtain ⟨us, h1, h2⟩ := h
  exact ⟨us.take k, h1.cut k hk, h2.take k⟩
theorem VRow.bys {w : World} {v : Value} {bss : List (List Int)} (h : VRow w v bss) : ∀ b ∈ bss, Bys b := by
  obtain ⟨us, h1, h2⟩ := h
  exact h2.bys
theorem VRow.nil (w : World) : VRow w (.slice none 0 0) [] := ⟨[], ⟨none, 0, rfl, Nat.le_refl _, Nat.zero_le _, fun _ => rfl, fun a h => by cases h⟩, Rows.nil w⟩
/-- At a place: the block, each slice, and what it reads. -/
theorem VRow.at {w : World} {v : Value} {bss : List (List Int)} (h : VRow w v bss) (h0 : 0 < bss.length) :
    ∃ b off cap, v = .slice (some ⟨b, off, none⟩) bss.length cap ∧ bss.length ≤ cap ∧ b < w.heap.size ∧ ∀ i, i < bss.length → ∃ u, w.cell? ⟨b, off + i, none⟩ = some u ∧ Row w u (bss.getD i []) := by
  obtain ⟨us, h1, h2⟩ := h
  obtain ⟨b, off, cap, hv, hl, hlt, hc⟩ := h1.at (by rw [h2.1]; exact h0)
  rw [h2.1] at hv hl
  refine ⟨b, off, cap, hv, hl, hlt, fun i hi => ?_⟩
  obtain ⟨u, hu, hr⟩ := h2.at hi
  exact ⟨u, hc i u hu, hr⟩

/-- A row of slices that the call owns. -/
def VOwn (base : Nat) (w : World) (v : Value) (us : List Value) : Prop := w.ownsRow base 38 1 v us.length us ∧ ∀ u ∈ us, ∃ a n c, u = .slice a n c
theorem VOwn.nil (base : Nat) (w : World) : VOwn base w (.slice none 0 0) [] := ⟨World.ownsRow_nil _ _ _ _, fun u h => by cases h⟩
theorem VOwn.block {base : Nat} {w : World} {v : Value} {us : List Value} (h : VOwn base w v us) : ∀ k, v.ownBlock = some k → base ≤ k ∧ k < w.heap.size := h.1.lt
theorem VOwn.vals {base : Nat} {w : World} {v : Value} {us : List Value} (h : VOwn base w v us) : Vals w v us := by
  rcases h.1.2 with ⟨rfl, hn⟩ | ⟨g, cap, cur, rfl, hbg, hg, hnc, hcm, hcs, htake⟩
  · exact ⟨none, 0, by rw [hn], by omega, Nat.zero_le _, fun _ => rfl, fun a h => by cases h⟩
  · refine ⟨_, cap, rfl, hnc, hcm, by simp, ?_⟩
    intro a ha j u hu
    obtain rfl := Option.some.inj ha
    exact h.1.cells (g := g) rfl j u hu
theorem VOwn.kept {base : Nat} {w w' : World} {v : Value} {us : List Value} (h : VOwn base w v us) (hb : Below w.heap.size w w') : VOwn base w' v us :=
  ⟨h.1.kept (row := none) ⟨hb.os, hb.tape, hb.output, hb.size, fun k hk _ => hb.block k hk⟩ (by cases hv : v.ownBlock <;> simp), h.2⟩
theorem VOwn.alloc {base : Nat} {w : World} {v : Value} {us : List Value} (h : VOwn base w v us) (o : Obj) : VOwn base (w.alloc o) v us := ⟨h.1.alloc o, h.2⟩
theorem VOwn.mono {base base' : Nat} {w : World} {v : Value} {us : List Value} (h : VOwn base w v us) (hb : base' ≤ base) : VOwn base' w v us := by
  refine ⟨⟨h.1.1, ?_⟩, h.2⟩
  rcases h.1.2 with hn | ⟨g, cap, cur, hv, hbg, r⟩
  · exact .inl hn
  · exact .inr ⟨g, cap, cur, hv, Nat.le_trans hb hbg, r⟩
theorem VOwn.grown_below {base B : Nat} {w0 w w' : World} {v : Value} {us : List Value} (h : VOwn base w v us) (hb : Below B w0 w) (hg : w.grownBy w' v.ownBlock) (hB : B ≤ base) (hs : B ≤ w.heap.size) : Below B w0 w' :=
  hb.grown hg hs (fun k e => Nat.le_trans hB (h.block k e).1)
/-- Bytes do not lie in a block of slices. -/
theorem Own.besides {base base' : Nat} {w w' : World} {v u : Value} {us : List Value} {b : List Int} (h : Own base w u b) (ho : VOwn base' w v us) (hg : w.grownBy w' v.ownBlock) : Own base w' u b := by
  refine ⟨⟨h.1.1, ?_⟩, h.2⟩
  rcases h.1.2 with hn | ⟨g, cap, cur, hv, hbg, hh, r⟩
  · exact .inl hn
  · have hlt := (h.1.lt g (by rw [hv]; rfl)).2
    refine .inr ⟨g, cap, cur, hv, hbg, (hg.block g hlt ?_).trans hh, r⟩
    intro e
    rcases ho.1.2 with ⟨hn, _⟩ | ⟨g', cap', cur', hv', _, hh', _⟩
    · rw [hn] at e; cases e
    · rw [hv'] at e
      cases e
      rw [hh] at hh'
      simp at hh'
/-- Slices that the call owns. -/
def Owns (base : Nat) (w : World) (us : List Value) (bss : List (List Int)) : Prop := us.length = bss.length ∧ ∀ (i : Nat) (u : Value) (b : List Int), us[i]? = some u → bss[i]? = some b → Own base w u b
theorem Owns.rows {base : Nat} {w : World} {us : List Value} {bss : List (List Int)} (h : Owns base w us bss) : Rows w us bss := ⟨h.1, fun i u b hu hb => (h.2 i u b hu hb).row⟩
theorem Owns.nil (base : Nat) (w : World) : Owns base w [] [] := ⟨rfl, fun i u b h => by simp at h⟩
theorem Owns.snoc {base : Nat} {w : World} {us : List Value} {bss : List (List Int)} {u : Value} {b : List Int} (h : Owns base w us bss) (k : Own base w u b) : Owns base w (us ++ [u]) (bss ++ [b]) := by
  refine ⟨by rw [List.length_append, List.length_append, h.1]; rfl, fun i u' b' hu hb => ?_⟩
  rcases Nat.lt_or_ge i us.length with hi | hi
  · rw [List.getElem?_append_left hi] at hu
    rw [List.getElem?_append_left (by rw [← h.1]; exact hi)] at hb
    exact h.2 i u' b' hu hb
  · rw [List.getElem?_append_right hi] at hu
    rw [List.getElem?_append_right (by rw [← h.1]; exact hi), ← h.1] at hb
    match hk : i - us.length, hu, hb with
    | 0, hu, hb => simp at hu hb; subst hu hb; exact k
    | n + 1, hu, hb => simp at hu
theorem Owns.kept {base : Nat} {w w' : World} {us : List Value} {bss : List (List Int)} (h : Owns base w us bss) (hb : Below w.heap.size w w') : Owns base w' us bss := ⟨h.1, fun i u b hu hb' => (h.2 i u b hu hb').kept hb⟩
theorem Owns.besides {base base' : Nat} {w w' : World} {v : Value} {vs us : List Value} {bss : List (List Int)} (h : Owns base w us bss) (ho : VOwn base' w v vs) (hg : w.grownBy w' v.ownBlock) : Owns base w' us bss := ⟨h.1, fun i u b hu hb' => (h.2 i u b hu hb').besides ho hg⟩
theorem Owns.mono {base base' : Nat} {w : World} {us : List Value} {bss : List (List Int)} (h : Owns base w us bss) (hb : base' ≤ base) : Owns base' w us bss := ⟨h.1, fun i u b hu hb' => (h.2 i u b hu hb').mono hb⟩

theorem slices_one {us : List Value} (h : ∀ u ∈ us, ∃ a n c, u = Value.slice a n c) : ∀ u ∈ us, u.oneCell' = true := by
  intro u hu
  obtain ⟨a, n, c, rfl⟩ := h u hu
  simp [Value.oneCell']
/-- append of a row of slices, whatever it is, to one that the call owns. -/
theorem wpList_append_vals {w : World} {ops : Array Oper} {rest : List Oper} {o : Oper} {a : Act} {Q : Exit → Act → World → Prop} (hgd : o.guard = none) (s x : Operand)
    (ho : o.op = .call { callee := .builtin .append, args := #[s, x], argTypes := #[49, 49] })
    (base : Nat) (v xv : Value) (us vs : List Value) (hs : a.eval s = v) (hown : VOwn base w v us) (hx : a.eval x = xv) (hrow : Vals w xv vs) (hsl : ∀ u ∈ vs, ∃ a n c, u = Value.slice a n c) (hfit : us.length + vs.length ≤ 1000000000000) (hbase : base ≤ w.heap.size)
    (h : ∀ v' w', VOwn base w' v' (us ++ vs) → w.grownBy w' v.ownBlock → wpList Try.prog ops Q rest (a.put o.dst v') w') : wpList Try.prog ops Q (o :: rest) a w := by
  obtain ⟨i0, hi, hz0, hz1, hz2⟩ := info_parts infoSl
  obtain ⟨ao, cap, rfl, h1, h2, h3, h4⟩ := hrow
  cases ao with
  | none =>
    have hc0 := h3 rfl
    have hl0 : vs = [] := List.eq_nil_of_length_eq_zero (by omega)
    subst hc0
    subst hl0
    refine wpList_append_own_none hgd s x 49 ho base 38 i0 1 Try.underlying49 hi v _ _ hs hown.1 hx ?_
    exact h v w (by rw [List.append_nil]; exact hown) (World.grownBy.refl _ _)
  | some ad =>
    refine wpList_append_own w hgd s x 49 ho base 38 i0 (.slice none 0 0) 1 24 Try.underlying49 hi hz0 hz1 hz2 rfl (by decide) v _ _ hs hown.1 ad vs.length cap vs hx (by rw [Nat.mul_one]) (h4 ad rfl) (slices_one hsl) (by unfold maxLen; omega) (by omega) hbase ?_
    intro v' w' ho' hg' _
    refine h v' w' ⟨by rw [List.length_append]; exact ho', ?_⟩ hg'
    intro u hu
    rcases List.mem_append.1 hu with h' | h'
    · exact hown.2 u h'
    · exact hsl u h'
/-- One value in a new block. -/
theorem vals_new1 (w : World) (u : Value) : Vals (w.alloc (.cells #[u] 38)) (.slice (some ⟨w.heap.size, 0, none⟩) 1 1) [u] := by
  refine ⟨_, 1, rfl, Nat.le_refl _, by unfold maxLen; omega, by simp, fun a ha j u' hu => ?_⟩
  obtain rfl := Option.some.inj ha
  match j, hu with
  | 0, hu =>
    simp at hu
    subst hu
    rw [Addr.add_lit]
    exact (Blk.new w #[u] 38).cell 0
  | j + 1, hu => simp at hu

/-! ### what the program does with such a slice, by equations -/
theorem sizeSl (w : World) : (sizeOf (Try.prog.elem 49)).run Try.prog w = .ok 1 w := by kernel_rfl
theorem slsTy : Try.prog.underlying 49 = some (.slice (Try.prog.elem 49)) := Try.underlying49
theorem VRow.lenRun {w : World} {v : Value} {bss : List (List Int)} (h : VRow w v bss) (w' : World) (ty : TypeId) : (Builtin.len_ #[49] ty #[v]).run Try.prog w' = .ok (.int .i64 bss.length) w' := by
  obtain ⟨ao, cap, rfl⟩ := h.of_len
  simp [Builtin.len_, run_underlying slsTy, goInt]
theorem VRow.idx {w : World} {v : Value} {bss : List (List Int)} (h : VRow w v bss) (k : Nat) (hk : k < bss.length) :
    ∃ (p : Addr) (u : Value), (∀ w', (Instr.indexAt 49 v (.int .i64 k)).run Try.prog w' = .ok (.pointer (some p)) w') ∧ w.cell? p = some u ∧ Row w u (bss.getD k []) := by
  obtain ⟨b, off, cap, rfl, hlc, hlt, hc⟩ := h.at (by omega)
  obtain ⟨u, hu, hr⟩ := hc k hk
  refine ⟨⟨b, off + k, none⟩, u, fun w' => ?_, hu, hr⟩
  rw [run_indexAt_slice _ _ _ _ _ _ _ slsTy]
  simp [sizeSl, Result.andThen, hk, Addr.add_lit]
/-- 'l[:k]'. -/
theorem VRow.cutRun {w : World} {v : Value} {bss : List (List Int)} (h : VRow w v bss) (k : Nat) (hk : k ≤ bss.length) :
    ∃ v', (∀ w', (Instr.sliceAt 49 v none (some (.int .i64 k)) none).run Try.prog w' = .ok v' w') ∧ VRow w v' (bss.take k) := by
  obtain ⟨ao, cap, rfl⟩ := h.of_len
  have hcap : bss.length ≤ cap := by
    obtain ⟨us, ⟨ao', cap', hv, h1, _⟩, h2⟩ := h
    simp at hv
    have := h2.1
    omega
  refine ⟨_, fun w' => ?_, h.cut k hk⟩
  rw [run_sliceAt_slice _ _ _ _ _ _ slsTy, run_slice_h _ _ _ _ _ slsTy .i64 k (by omega) (by omega), sizeSl]
  simp [Result.andThen, sliced]
  intro _
  cases ao <;> simp [Addr.add]

/-! ### arguments: rows of rows -/
structure RB where
  v : Value
  xs : List Int
instance : Inhabited RB := ⟨⟨.slice none 0 0, []⟩⟩
def RB.cells (o : RB) : List Value := [o.v]
theorem opens_vrow (w : World) : Opens Try.prog w 49 (fun cs => ∃ v bss, cs = [v] ∧ VRow w v bss) := by
  have hL : Opens Try.prog w 38 _ := opens_ints Try.underlying38 Try.underlying5 (by kernel_rfl)
  have h := opens_slice Try.underlying49 RB.cells (fun o => IRow .u8 w o.v o.xs) (hL.mono (fun cs ⟨v, xs, e, r⟩ => ⟨⟨v, xs⟩, e, r⟩))
  rw [show Try.prog.cellsOf 38 = 1 from by kernel_rfl] at h
  refine h.mono ?_
  rintro cs ⟨v, xs, rfl, ⟨ao, cap, rfl, h1, h2, h3, h4⟩, hx⟩
  refine ⟨_, xs.map RB.xs, rfl, xs.map RB.v, ⟨ao, cap, by rw [List.length_map], by rw [List.length_map]; exact h1, h2, h3, fun a ha j u hu => ?_⟩, by simp, fun i u b hu hb => ?_⟩
  · rw [List.getElem?_map] at hu
    cases hj : xs[j]? with
    | none => rw [hj] at hu; cases hu
    | some x =>
      rw [hj] at hu
      have := h4 a ha j x hj 0 u (by simpa [RB.cells] using hu)
      simpa using this
  · rw [List.getElem?_map] at hu hb
    cases hj : xs[i]? with
    | none => rw [hj] at hu; cases hu
    | some x =>
      rw [hj] at hu hb
      simp at hu hb
      subst hu hb
      exact (hx x (List.mem_of_getElem? hj)).bytes
end Go.Proofs.Ytgkgbbffgcmekaa
