/-
  The contracts of package nand: a block is erased, or torn.
-/
import Derived.Test.YthiehpofmlbehaaNandD
namespace Go.Proofs.Ythiehpofmlbehaa
open Go.RowKit
set_option linter.unusedVariables false
set_option maxRecDepth 100000

/-- Blocks below base stay, but for those of l. -/
structure OnlyB (base : Nat) (l : List Nat) (w w' : World) : Prop where
  os : w'.os = w.os
  tape : w'.tape = w.tape
  output : w'.output = w.output
  size : w.heap.size ≤ w'.heap.size
  block : ∀ k, k < base → k < w.heap.size → k ∉ l → w'.heap[k]? = w.heap[k]?
  other : ∀ k, k < w.heap.size → k ∉ l → (∀ cs z, w.heap[k]? ≠ some (.cells cs 5 z)) → w'.heap[k]? = w.heap[k]?
theorem OnlyB.refl (base : Nat) (l : List Nat) (w : World) : OnlyB base l w w := ⟨rfl, rfl, rfl, Nat.le_refl _, fun _ _ _ _ => rfl, fun _ _ _ _ => rfl⟩
theorem OnlyB.trans {base : Nat} {l : List Nat} {a b c : World} (h : OnlyB base l a b) (k : OnlyB base l b c) : OnlyB base l a c :=
  ⟨k.os.trans h.os, k.tape.trans h.tape, k.output.trans h.output, Nat.le_trans h.size k.size, fun i hb hi hn => (k.block i hb (Nat.lt_of_lt_of_le hi h.size) hn).trans (h.block i hb hi hn), fun i hi hn ht => (k.other i (Nat.lt_of_lt_of_le hi h.size) hn (fun cs z e => ht cs z (by rw [← h.other i hi hn ht]; exact e))).trans (h.other i hi hn ht)⟩
theorem Only.upto {base : Nat} {l m : List Nat} {a b : World} (h : Only l a b) (hs : ∀ k ∈ l, k < base → k ∈ m) (ht : ∀ k ∈ l, k ∈ m ∨ ∃ cs z, a.heap[k]? = some (.cells cs 5 z)) : OnlyB base m a b :=
  ⟨h.os, h.tape, h.output, h.size, fun k hb hk hn => h.block k hk (fun e => hn (hs k e hb)), fun k hk hn hno => h.block k hk (fun e => (ht k e).elim hn (fun ⟨cs, z, e2⟩ => hno cs z e2))⟩
theorem Own.typed {base : Nat} {w : World} {g n cap : Nat} {xs : List Int} (h : Own base w (.slice (some ⟨g, 0, none⟩) n cap) xs) : ∃ cs z, w.heap[g]? = some (.cells cs 5 z) := by
  rcases h.1.2 with ⟨e, _⟩ | ⟨g', cap', cur, hv, _, hh, _⟩
  · cases e
  · cases hv
    exact ⟨cur, _, hh⟩
theorem Blk.onlyT {base : Nat} {l : List Nat} {w w' : World} {b : Nat} {cs : Array Value} {t : TypeId} (h : Blk w b cs t) (hg : OnlyB base l w w') (hn : b ∉ l) (ht : t ≠ 5) : Blk w' b cs t :=
  (hg.other b h.lt hn (fun cs' z e => by have h' : w.heap[b]? = _ := h; rw [h'] at e; cases e; exact ht rfl)).trans h
theorem OnlyB.below {l : List Nat} {B base : Nat} {a w w' : World} (h : OnlyB base l w w') (hb : Below B a w) (hl : ∀ k ∈ l, B ≤ k) (hs : B ≤ w.heap.size) (hB : B ≤ base) : Below B a w' :=
  ⟨h.os.trans hb.os, h.tape.trans hb.tape, h.output.trans hb.output, Nat.le_trans hb.size h.size, fun k hk => (h.block k (by omega) (by omega) (fun e => by have := hl k e; omega)).trans (hb.block k hk)⟩
theorem Blk.onlyB {base : Nat} {l : List Nat} {w w' : World} {b : Nat} {cs : Array Value} {t : TypeId} (h : Blk w b cs t) (hg : OnlyB base l w w') (hb : b < base) (hn : b ∉ l) : Blk w' b cs t := (hg.block b hb h.lt hn).trans h

theorem wpList_delete_run {P : Program} {w : World} {ops : Array Oper} {rest : List Oper} {o : Oper} {a : Act} {Q : Exit → Act → World → Prop} (hg : o.guard = none) (m x : Operand) (t k : TypeId) (hop : o.op = .call { callee := .builtin .delete, args := #[m, x], argTypes := #[t, k] })
    (mv key : Value) (hm : a.eval m = mv) (hx : a.eval x = key) {w' : World} (hrun : (Builtin.delete_ #[t, k] o.type #[mv, key]).run P w = .ok (.tuple #[]) w') (hK : wpList P ops Q rest (a.put o.dst (.tuple #[])) w') :
    wpList P ops Q (o :: rest) a w := by
  refine wpList_plain hg fun K' hK' => ?_
  unfold Oper.wp
  simp [execOp, hop, resolve, invoke, builtin, hm, hx, hrun, Result.andThen]
  exact hK' _ _ hK

set_option maxHeartbeats 2000000 in
theorem forget_any (base : Nat) (w : World) (L : DLay) (S : PSt) (N : DSt) (m n : Nat) (h : NDev base w L S N m) (ok : N.Ok n) (i : Nat) (hi : i < N.C) :
    Calls Try.prog 41 #[.pointer (some ⟨L.c, 0, none⟩), .int .i64 i] w fun e w' =>
      e = .returned (.tuple #[]) ∧ NDev base w' L S { (N.wipe i 255) with nx := N.nx.set i 0 } m ∧ Only [L.mb, L.nb] w w' := by
  have c7 := h.chip.blk.cell 7
  simp [dcells] at c7
  have ci := h.chip.nextAt (j := i) (by rw [ok.nl]; omega)
  have hnx := ok.nxAt hi
  have hC1 := ok.C1
  have hD1 := ok.D1
  have hiC : (i : Int) < N.C := by omega
  obtain ⟨f, hf, hpg⟩ := h.chip.pgs
  obtain ⟨⟨n1, n2, n3, n4, n5, n6⟩, m1, m2, m3, m4⟩ := h.chip.ne
  have hwip : ∀ (wr : World) (g : Nat → Nat → Option Value), PgMap wr L.mb m g → Only [L.mb] w wr → (∀ a b, a < N.C → b < N.D → g a b = if a = i ∧ (b : Int) < N.nx.getD i 0 then none else f a b) →
      NDev base (wr.setCell ⟨L.nb, i, none⟩ (.int .i64 0)) L S { (N.wipe i 255) with nx := N.nx.set i 0 } m ∧ Only [L.mb, L.nb] w (wr.setCell ⟨L.nb, i, none⟩ (.int .i64 0)) := by
    intro wr g hg hO he
    have hO2 : Only [L.nb] wr (wr.setCell ⟨L.nb, i, none⟩ (.int .i64 0)) := only_setCell _ _ _ _ _ (by simp)
    have hO3 : Only [L.mb, L.nb] w (wr.setCell ⟨L.nb, i, none⟩ (.int .i64 0)) := (hO.wide (by simp)).trans (hO2.wide (by simp))
    have hmo := h.mo
    refine ⟨⟨h.pow.only hO3 (by simp; omega) (fun q hq => by have := hmo q hq; simp; omega), ⟨?_, ?_, ?_, ⟨g, hg.only hO2 (by simp; omega), hpg.wiped ok hi hO3 h.chip.lt.2.2.1 he⟩, h.chip.lt, h.chip.ne⟩, h.mo⟩, hO3⟩
    · exact h.chip.blk.only hO3 (by simp; omega)
    · exact (h.chip.nxt.only hO (by simp; omega)).setI5 i 0
    · exact h.chip.ers.only hO3 (by simp; omega)
  have hcell : ∀ wr, Only [L.mb] w wr → wr.cell? ⟨L.c, 6, none⟩ = some (.map (some L.mb)) ∧ wr.cell? ⟨L.c, 7, none⟩ = some (.slice (some ⟨L.nb, 0, none⟩) N.C N.C) ∧ wr.cell? ⟨L.nb, i, none⟩ = some (.int .i64 (N.nx.getD i 0)) ∧ wr.frozen? ⟨L.nb, i, none⟩ = false := by
    intro wr hO
    have hb := h.chip.blk.only hO (by simp; omega)
    have hx := h.chip.nxt.only hO (by simp; omega)
    exact ⟨(hb.cell 6).trans rfl, (hb.cell 7).trans rfl, by rw [hx.cell i, List.getElem?_toArray, iv_at (by rw [ok.nl]; exact hi)], hx.frozen i⟩
  have HW := hide hwip
  have HC := hide hcell
  obtain ⟨q, hq⟩ := Int.eq_ofNat_of_zero_le hnx.1
  have hqD : q ≤ N.D := by omega
  rw [hq] at HW HC ci
  clear hwip hcell hpg h hnx
  go_enter Try.func41, Try.ntmps41
  go_wp2_with fail
  go_loopw [12] (fun v wr => ∃ k : Nat, k ≤ q ∧ v = .int .i64 k ∧ ∃ g, PgMap wr L.mb m g ∧ Only [L.mb] w wr ∧ (∀ a b, a < N.C → b < N.D → g a b = if a = i ∧ b < k then none else f a b)) (fun v _ => q - (intOf v).toNat)
  case atStart => exact ⟨0, Nat.zero_le _, rfl, f, hf, Only.refl _ _, fun a b _ _ => by rw [if_neg (by omega)]⟩
  case round =>
    obtain ⟨k, hk, rfl, g, hg, hO, he⟩ := hrel
    obtain ⟨d6, d7, dn, df⟩ := HC.out wr hO
    by_cases hlt : k < q
    · obtain ⟨w', hrun, hg', hgr⟩ := hg.del i k (by omega) (by omega) 3
      have hrun' : ∀ ty, (Builtin.delete_ #[66, 81] ty #[.map (some L.mb), .agg #[.int .i64 i, .int .i64 k]]).run Try.prog wr = .ok (.tuple #[]) w' := fun ty => hrun
      have hO' : Only [L.mb] w w' := hO.trans (only_grown hgr (fun k e => by cases e; simp))
      have he' : ∀ a b, a < N.C → b < N.D → put2 g i k none a b = if a = i ∧ b < k + 1 then none else f a b := by
        intro a b ha hb
        unfold put2
        rw [he a b ha hb]
        by_cases e : a = i ∧ b = k
        · rw [if_pos e, if_pos (by omega)]
        · rw [if_neg e]
          by_cases e2 : a = i ∧ b < k
          · rw [if_pos e2, if_pos (by omega)]
          · rw [if_neg e2, if_neg (by omega)]
      have HE := hide he'
      clear he' he hrun hgr
      go_wp2_with (at_delete; refine wpList_delete_run rfl _ _ _ _ rfl _ _ rfl rfl (hrun' _) ?_)
      go_wp2
      exact ⟨⟨k + 1, by omega, by go_num, _, hg', hO', HE.out⟩, by simp [intOf]; omega⟩
    · obtain rfl : k = q := by omega
      have R := HW.out wr g hg hO (fun a b ha hb => by
        rw [he a b ha hb]
        by_cases e : a = i ∧ b < k
        · rw [if_pos e, if_pos (by omega)]
        · rw [if_neg e, if_neg (by omega)])
      clear HW HC he
      go_wp2
      go_end0
      exact ⟨rfl, R⟩
end Go.Proofs.Ythiehpofmlbehaa
