/-
  A table of pages in memory: a map keyed by a page's index; gather.
-/
import Derived.Test.YtdjpnoolbpnpiaaRunsD
import Derived.Test.YtdjpnoolbpnpiaaPowA
import Derived.Maps.RangeWalk
namespace Go.Proofs.Ytdjpnoolbpnpiaa
open Go.RowKit Go.Maps
set_option linter.unusedVariables false
set_option maxRecDepth 100000

def asIt (v : Value) : Option (DataW Value × List MemPlace) := some (.held v, [])
def pageK (i : Int) : Lit := .string (keyBytes [.int .i64 i])
theorem keyedPg : Keyed Try.prog 46 := Keyed.of_law (deep_law_laid (by kernel_rfl) (m := 2) (by omega) (of_decide_eq_true (by kernel_rfl)) (by kernel_rfl) (by kernel_rfl))
theorem keyOf_pg (a : Int) (h : (Lit.int .i64 a).wf = true) : keyOf Try.prog 46 (.agg #[.int .i64 a]) = some (pageK a) :=
  keyOf_one (n := 70) Try.underlying46 rfl Try.underlying3 (by kernel_rfl) (by kernel_rfl) (by decide) (by kernel_rfl) (by kernel_rfl) a h
theorem pageK_inj {a b : Int} (ha : (Lit.int .i64 a).wf = true) (hb : (Lit.int .i64 b).wf = true) (h : pageK a = pageK b) : a = b := by
  have := keyedPg.inj (keyOf_pg a ha) (h ▸ keyOf_pg b hb)
  simpa using this
theorem wf64 {i : Nat} (h : i < 64) : (Lit.int .i64 (i : Int)).wf = true := wf_i64 (by omega) (by omega)

/-- What stands there, or z. -/
def pickZ (o : Option Int) (z : DataW Value) : DataW Value := match o with
  | some a => .held (.int .i64 a)
  | none => z

/-- The map in block b holds the places f of the pages below 64. -/
def Tab (w : World) (b n : Nat) (f : Nat → Option Int) : Prop :=
  ∃ D, w.ownsMap (H := Value) Try.prog 46 asIt b n D ∧ (∀ i : Nat, i < 64 → ∀ z, D.atKey (pageK i) z = pickZ (f i) z) ∧ ∀ kl, has D kl = true → ∃ i : Nat, i < 64 ∧ kl = pageK i
theorem Tab.lt {w : World} {b n : Nat} {f : Nat → Option Int} (h : Tab w b n f) : b < w.heap.size := by obtain ⟨D, h, _⟩ := h; exact h.lt
theorem Tab.kept {w w' : World} {b n : Nat} {f : Nat → Option Int} {r : Option Nat} (h : Tab w b n f) (hg : w.grownBy w' r) (hb : some b ≠ r) : Tab w' b n f := by
  obtain ⟨D, h1, h2⟩ := h
  exact ⟨D, h1.kept hg hb, h2⟩
theorem Tab.below {w w' : World} {b n : Nat} {f : Nat → Option Int} (h : Tab w b n f) (hb : Below w.heap.size w w') : Tab w' b n f := h.kept (below_grown hb none) (by simp)
theorem Tab.congr {w : World} {b n : Nat} {f g : Nat → Option Int} (h : Tab w b n f) (hf : ∀ i, i < 64 → f i = g i) : Tab w b n g := by
  obtain ⟨D, h1, h2, h3⟩ := h
  exact ⟨D, h1, fun i hi z => by rw [← hf i hi]; exact h2 i hi z, h3⟩
theorem Tab.more {w : World} {b n m : Nat} {f : Nat → Option Int} (h : Tab w b n f) (hm : n ≤ m) : Tab w b m f := by
  obtain ⟨D, h1, h2⟩ := h
  exact ⟨D, h1.mono hm, h2⟩
theorem Tab.made (w : World) : Tab (w.alloc (.map #[] 0)) w.heap.size 0 (fun _ => none) := ⟨_, World.ownsMap_made _ _ _ _, fun i _ z => rfl, fun kl h => by simp [has] at h⟩

theorem zeroInt9 (w : World) : (zeroValue 3).run Try.prog w = .ok (.int .i64 0) w := by kernel_rfl
theorem Tab.look {w : World} {b n : Nat} {f : Nat → Option Int} (h : Tab w b n f) (x : Int) (i : Nat) (hx : x = i) (hi : i < 64) :
    (Instr.lookup 42 (.map (some b)) (.agg #[.int .i64 x]) true).run Try.prog w = .ok (.tuple #[.int .i64 ((f i).getD 0), .bool (f i).isSome]) w := by
  subst hx
  obtain ⟨D, h1, h2, _⟩ := h
  obtain ⟨v, ps, hrun, hv⟩ := h1.look_ok keyedPg Try.underlying42 (zeroInt9 w) (zd := .held (.int .i64 0)) (zp := []) rfl (keyOf_pg i (wf64 hi))
  have hat := h2 i hi
  rw [hrun]
  rw [hat] at hv
  cases hf : f i with
  | none =>
    rw [hf] at hat hv
    simp only [pickZ] at hat hv
    rw [has_false_of_atKey (fun z => hat z)]
    simp [asIt] at hv
    simp [hv.1]
  | some u =>
    rw [hf] at hat hv
    simp only [pickZ] at hat hv
    rw [has_true_of_atKey (fun z => hat z)]
    simp [asIt] at hv
    simp [hv.1]
theorem Tab.put {w : World} {b n : Nat} {f : Nat → Option Int} (h : Tab w b n f) (hn : n < 1000) (x : Int) (i : Nat) (hx : x = i) (hi : i < 64) (a : Int) :
    ∃ w', (Instr.mapUpdate 42 (.map (some b)) (.agg #[.int .i64 x]) (.int .i64 a)).run Try.prog w = .ok () w' ∧ Tab w' b (n + 1) (updF f i a) ∧ w.grownBy w' (some b) := by
  subst hx
  obtain ⟨D, h1, h2, h3⟩ := h
  have hm := h1.isMap
  obtain ⟨w', hrun, r1, r2⟩ := h1.update keyedPg Try.underlying42 (by unfold maxLen; omega) (keyOf_pg i (wf64 hi)) (show asIt (.int .i64 a) = some (.held (.int .i64 a), []) from rfl)
  refine ⟨w', hrun, ⟨_, r1, ?_, ?_⟩, r2⟩
  · intro j hj z
    unfold updF
    by_cases e : j = i
    · subst e
      rw [if_pos rfl, atKey_put_same hm (show WideAt.IsKeyLit (pageK j) from trivial)]
      rfl
    · rw [if_neg (by omega), atKey_put_other (fun e2 => e (by have := pageK_inj (wf64 hj) (wf64 hi) e2; omega))]
      exact h2 j hj z
  · intro kl hkl
    by_cases e : kl = pageK i
    · exact ⟨i, hi, e⟩
    · rw [has_put_other e] at hkl
      exact h3 kl hkl
theorem run_makeTab (n : Int) (w : World) : (Instr.makeMap 42 (some (.int .i64 n))).run Try.prog w = .ok (.map (some w.heap.size)) (w.alloc (.map #[] 0)) := by
  simp [Instr.makeMap, run_underlying Try.underlying42, asInt, Result.andThen, newObj]
  rfl

/-- The table with the first j pages of a run. -/
def runF (g : Nat → Option Int) (f a : Int) (j : Nat) : Nat → Option Int := fun i => if f ≤ (i : Int) ∧ (i : Int) < f + (j : Int) then some (a + ((i : Int) - f)) else g i
theorem runF_zero (g : Nat → Option Int) (f a : Int) (i : Nat) : runF g f a 0 i = g i := by unfold runF; rw [if_neg]; omega
theorem runF_succ (g : Nat → Option Int) (f a : Int) (j : Nat) (F : Nat) (hF : f = F) (i : Nat) : runF g f a (j + 1) i = updF (runF g f a j) ((F + j : Nat) : Int) (a + (j : Int)) i := by
  unfold runF updF
  by_cases e : (i : Int) = ((F + j : Nat) : Int)
  · rw [if_pos (by omega), if_pos e]; congr 1; omega
  · rw [if_neg e]
    dsimp only
    by_cases e2 : f ≤ (i : Int) ∧ (i : Int) < f + (j : Int)
    · rw [if_pos e2, if_pos (by omega)]
    · rw [if_neg e2, if_neg (by omega)]
theorem runF_all {l : List Rn} {k : Nat} (hk : k < l.length) (hr : rightS (l.take (k + 1)) = true) (N : Nat) (hN : (l.getD k default).n = N) (i : Nat) : runF (tabS (l.take k)) (l.getD k default).f (l.getD k default).a N i = tabS (l.take (k + 1)) i := by
  rw [take_more hk] at hr
  unfold runF tabS
  rw [take_more hk, get_snoc]
  by_cases e : (l.getD k default).f ≤ (i : Int) ∧ (i : Int) < (l.getD k default).f + (N : Int)
  · rw [if_pos e]
    have hh : hasS (l.getD k default) i = true := has_iff.2 ⟨by omega, e.1, by omega⟩
    rw [get_none_has hr _ hh, if_pos hh]
  · rw [if_neg e]
    have hh : hasS (l.getD k default) i = false := by rw [Bool.eq_false_iff]; intro h; have := has_iff.1 h; omega
    rw [hh]
    cases getS (l.take k) i <;> rfl

set_option maxHeartbeats 4000000 in
theorem gather_any (w : World) (v : Value) (l : List Rn) (h : RRow w v l) (hr : rightS l = true) :
    Calls Try.prog 14 #[v] w fun e w' => e = .returned (.map (some w.heap.size)) ∧ Tab w' w.heap.size 64 (tabS l) ∧ Below w.heap.size w w' := by
  have HR := hide h
  have hlr := h.lenRun
  have HT := hide hr
  have hlb := len_bound hr
  have hmk := run_makeTab
  obtain ⟨len, hL⟩ : ∃ n, l.length = n := ⟨_, rfl⟩
  have HL := hide hL
  rw [hL] at hlb
  simp only [hL] at hlr
  clear hL h hr
  go_enter Try.func14, Try.ntmps14
  go_wp2
  go_loopw [10] (fun i wr => ∃ k : Nat, k ≤ len ∧ i = .int .i64 k ∧ Tab wr w.heap.size (cntS (l.take k)).toNat (tabS (l.take k)) ∧ Below w.heap.size w wr) (fun i _ => len - (intOf i).toNat)
  case atStart => exact ⟨0, Nat.zero_le _, rfl, Tab.made w, (Below.refl _ _).alloc (Nat.le_refl _) _⟩
  case round =>
    obtain ⟨k, hk, rfl, htab, hbk⟩ := hrel
    by_cases hlt : k < len
    · have hlt' : (k : Int) < len := by omega
      have hkl : k < l.length := by rw [HL.out]; exact hlt
      obtain ⟨b, o, hbs, hix, c0, c1, c2⟩ := (HR.out.below hbk).idx k hkl
      have hcm := cnt_more hkl
      have hc1 := cnt_bound (right_take HT.out k)
      have hc2 := cnt_bound (right_take HT.out (k + 1))
      have hw := within_iff.1 (within_at (l := l) (i := k) (k := k + 1) (right_take HT.out _) (by omega) (by omega))
      have hall := runF_all hkl (right_take HT.out (k + 1))
      generalize hr : l.getD k default = r at *
      obtain ⟨f, a, n⟩ := r
      simp only at c0 c1 c2 hcm hw hall
      obtain ⟨N, rfl⟩ : ∃ N : Nat, n = (N : Int) := ⟨n.toNat, by omega⟩
      obtain ⟨F, rfl⟩ : ∃ F : Nat, f = (F : Int) := ⟨f.toNat, by omega⟩
      have HA := hide (hall N rfl)
      obtain ⟨C, hC⟩ : ∃ C, (cntS (l.take k)).toNat = C := ⟨_, rfl⟩
      have hCN : C + N ≤ 64 := by omega
      have HCN := hide (show (cntS (l.take (k + 1))).toNat = C + N by omega)
      rw [hC] at htab
      have hB1 : Below w.heap.size w (wr.alloc (.cells #[.int .i64 F, .int .i64 a, .int .i64 N] 39)) := hbk.alloc hbk.size _
      have hBl := Blk.new wr #[.int .i64 F, .int .i64 a, .int .i64 N] 39
      have e2 : (wr.alloc (.cells #[.int .i64 F, .int .i64 a, .int .i64 N] 39)).cell? ⟨wr.heap.size, 2, none⟩ = some (.int .i64 N) := hBl.cell 2
      have hT1 := htab.kept (World.grownBy_alloc wr (.cells #[.int .i64 F, .int .i64 a, .int .i64 N] 39) none) (by simp)
      have hmw : w.heap.size < wr.heap.size := htab.lt
      have HTB := hide hT1
      have HBl := hide hBl
      clear hT1 hBl hbk hbs htab hall hr hC hcm hc1 hc2
      go_wp2_with fail
      generalize wr.alloc (.cells #[.int .i64 F, .int .i64 a, .int .i64 N] 39) = W at *
      generalize wr.heap.size = c at *
      clear hix c0 c1 c2
      go_loopw [16] (fun i wr => ∃ j : Nat, j ≤ N ∧ i = .int .i64 j ∧ Tab wr w.heap.size (C + j) (runF (tabS (l.take k)) F a j) ∧ Below w.heap.size w wr ∧ Blk wr c #[.int .i64 F, .int .i64 a, .int .i64 N] 39) (fun i _ => N - (intOf i).toNat)
      case atStart => exact ⟨0, Nat.zero_le _, rfl, HTB.out.congr (fun i _ => (runF_zero _ _ _ i).symm), hB1, HBl.out⟩
      case round =>
        obtain ⟨j, hj, rfl, htj, hbj, hblj⟩ := hrel
        by_cases hjl : j < N
        · have hjl' : (j : Int) < N := by omega
          have d0 := (hblj.cell 0).trans rfl
          have d1 := (hblj.cell 1).trans rfl
          obtain ⟨w3, hrun, ht3, hg3⟩ := htj.put (by omega) ((F : Int) + (j : Int)) (F + j) (by omega) (by omega) (a + (j : Int))
          have hB3 : Below w.heap.size w w3 := hbj.grown hg3 hbj.size (fun k e => by cases e; exact Nat.le_refl _)
          have hbl3 := hblj.kept hg3 (by simp; omega)
          have HT3 := hide (ht3.congr (fun i _ => (runF_succ (tabS (l.take k)) (F : Int) a j F rfl i).symm))
          clear htj ht3 hg3 hbj hblj HTB HBl
          go_wp2
          exact ⟨⟨j + 1, by omega, by go_num, HT3.out, hB3, hbl3⟩, by simp [intOf]; omega⟩
        · obtain rfl : j = N := by omega
          have HTj := hide (htj.congr (fun i _ => HA.out i))
          clear htj
          go_wp2
          exact ⟨⟨k + 1, by omega, by go_num, by rw [HCN.out]; exact HTj.out, hbj⟩, by simp [intOf]; omega⟩
    · obtain rfl : k = len := by omega
      have hcb := cnt_bound (right_take HT.out k)
      rw [List.take_of_length_le (by rw [HL.out]; exact Nat.le_refl _)] at htab hcb
      have HTT := hide (htab.more (show (cntS l).toNat ≤ 64 by omega))
      clear htab hcb
      go_wp2
      go_ret
      exact ⟨rfl, HTT.out, hbk⟩
end Go.Proofs.Ytdjpnoolbpnpiaa
