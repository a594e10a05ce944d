/-
  The contracts of package runs: maps.DeleteFunc at the table, with Cut's own test.
-/
import Derived.Test.YtdjpnoolbpnpiaaRunsE
namespace Go.Proofs.Ytdjpnoolbpnpiaa
open Go.RowKit Go.Maps
set_option linter.unusedVariables false
set_option maxRecDepth 100000

theorem cut1_any (w : World) (x : Int) (c : Value) (bx : Nat) (q : Int) (hc : w.cell? ⟨bx, 0, none⟩ = some (.int .i64 q)) :
    Calls Try.prog 16 #[.agg #[.int .i64 x], c, .pointer (some ⟨bx, 0, none⟩)] w (SaysB (decide (q ≤ x)) w) := by
  have hlt := World.block_lt_of_cell? w _ hc
  have hB : Below w.heap.size w (w.alloc (.cells #[.int .i64 x] 46)) := (Below.refl _ _).alloc (Nat.le_refl _) _
  have HB := hide hB
  have hc2 := kl_cell hB hc
  have hlt2 : bx < w.heap.size := hlt
  clear hB hlt
  go_enter Try.func16, Try.ntmps16
  go_wp2
  go_ret
  exact ⟨rfl, HB.out⟩

/-- What is there when those that come no more, and are from q on, are struck. -/
def cutL (f : Nat → Option Int) (q : Int) (left : Lit → Bool) : Nat → Option Int := fun i => if q ≤ (i : Int) ∧ left (pageK i) = false then none else f i
theorem sameKey_pg {i j : Nat} (hi : i < 64) (hj : j < 64) : (pageK i).sameKey (pageK j) = decide (i = j) := by
  by_cases e : i = j
  · subst e
    rw [WideAt.sameKey_self (show WideAt.IsKeyLit (pageK i) from trivial)]
    simp
  · rw [Maps.sameKey_ne (fun e2 => e (by have := pageK_inj (wf64 hi) (wf64 hj) e2; omega))]
    simp [e]

theorem cutL_other {f : Nat → Option Int} {q : Int} {left : Lit → Bool} {i j : Nat} (hi : i < 64) (hj : j < 64) (hne : j ≠ i) : cutL f q (fun z => left z && !z.sameKey (pageK i)) j = cutL f q left j := by
  unfold cutL
  simp [sameKey_pg hj hi, hne]
theorem cutL_same {f : Nat → Option Int} {q : Int} {left : Lit → Bool} {i : Nat} (hi : i < 64) (hq : q ≤ (i : Int)) : cutL f q (fun z => left z && !z.sameKey (pageK i)) i = none := by
  unfold cutL
  simp [sameKey_pg hi hi, hq]
theorem cutL_stays {f : Nat → Option Int} {q : Int} {left : Lit → Bool} {i j : Nat} (hi : i < 64) (hj : j < 64) (hq : ¬ q ≤ (i : Int)) : cutL f q (fun z => left z && !z.sameKey (pageK i)) j = cutL f q left j := by
  by_cases e : j = i
  · subst e
    unfold cutL
    simp [hq]
  · exact cutL_other hi hj e
/-- The table under way. -/
def Going (f : Nat → Option Int) (q : Int) (b r n : Nat) (wr : World) (left : Lit → Bool) (cnt : Nat) : Prop :=
  ∃ D, wr.ranges (H := Value) Try.prog 46 asIt b r n D left cnt ∧ (∀ i : Nat, i < 64 → ∀ z, D.atKey (pageK i) z = pickZ (cutL f q left i) z) ∧ (∀ kl, has D kl = true → ∃ i : Nat, i < 64 ∧ kl = pageK i) ∧ (∀ kl, left kl = true → ∃ i : Nat, i < 64 ∧ kl = pageK i)
theorem Going.tab {f : Nat → Option Int} {q : Int} {b r n : Nat} {wr : World} {left : Lit → Bool} {cnt : Nat} (h : Going f q b r n wr left cnt) (hl : ∀ kl, left kl = false) : Tab wr b n (cutF f q) := by
  obtain ⟨D, h1, h2, h3, h4⟩ := h
  refine ⟨D, h1.owns, fun i hi z => ?_, h3⟩
  rw [h2 i hi z]
  have : cutL f q left i = cutF f q i := by unfold cutL cutF; simp [hl]
  rw [this]

set_option maxHeartbeats 4000000 in
theorem DelFunc_any (w : World) (b n : Nat) (f : Nat → Option Int) (q : Int) (bx : Nat) (h : Tab w b n f) (hc : w.cell? ⟨bx, 0, none⟩ = some (.int .i64 q)) (hbx : bx ≠ b) :
    Calls Try.prog 15 #[.map (some b), .func (.func 16) #[] #[.pointer (some ⟨bx, 0, none⟩)]] w fun e w' => e = .returned (.tuple #[]) ∧ Tab w' b n (cutF f q) ∧ w.grownBy w' (some b) := by
  obtain ⟨D, hown, hat0, hks⟩ := h
  have HC := hide hc
  have hlt0 := hown.lt
  go_enter Try.func15, Try.ntmps15
  go_wp2_with (first
    | (at_range; refine wpList_range_own _ rfl _ 42 rfl 46 3 keyedPg Try.underlying42 asIt b n _ rfl hown ?_; intro w0 hrg0 hg0 hs0)
    | go_in)
  go_frame
  have HK := hide hks
  have HA0 := hide hat0
  clear hat0 hks hc
  go_loopw [8] (fun _ wr => ∃ (left : Lit → Bool) (cnt : Nat), Going f q b w.heap.size n wr left cnt ∧ w.grownBy wr (some b))
    (fun _ wr => wr.rangeLeft b w.heap.size)
  case atStart =>
    refine ⟨_, _, ⟨D, hrg0, fun i hi z => ?_, HK.out, fun kl hkl => HK.out kl hkl⟩, hg0.but _⟩
    rw [HA0.out i hi z]
    congr 1
    unfold cutL
    by_cases e : q ≤ (i : Int) ∧ has D (pageK i) = false
    · rw [if_pos e]
      cases hf : f i with
      | none => rfl
      | some a =>
        have : has D (pageK i) = true := has_true_of_atKey (y := .held (.int .i64 a)) (fun z => by rw [HA0.out i hi z, hf]; rfl)
        rw [this] at e
        simp at e
    · rw [if_neg e]
  case round =>
    obtain ⟨left, cnt, ⟨D', hrg, hat, hks, hlk⟩, hgw⟩ := hrel
    have HAT := hide hat
    have HKS := hide hks
    have HLK := hide hlk
    clear hat hks hlk
    go_wp2_with (first
      | (at_next; refine wpList_next_ranges _ rfl _ rfl 46 keyedPg asIt id id (fun key _ _ => ⟨key, rfl⟩) (fun v _ _ => ⟨v, rfl⟩) b w.heap.size n _ _ _ rfl hrg ?_ ?_)
      | go_in)
    · intro _ hl0
      have HT := hide (Going.tab ⟨D', hrg, HAT.out, HKS.out, HLK.out⟩ hl0)
      clear hrg hl0
      go_wp2
      go_end0
      exact ⟨rfl, HT.out, hgw⟩
    · intro x c kl yd yp w1 cnt1 hkey hlx hv hat1 hrg1 hlt hg1 hs1 hen
      obtain ⟨i, hi, rfl⟩ := HLK.out kl hlx
      have hx : x = .agg #[.int .i64 (i : Int)] := keyedPg.inj hkey (keyOf_pg i (wf64 hi))
      subst hx
      have hgw1 := hgw.andThen hg1 (fun j hj => by cases hj; exact Or.inl (Nat.le_refl _))
      have hb0 : b < w1.heap.size := hrg1.owns.lt
      have hr0 := hrg1.lt
      have hA := World.grownBy_alloc w1 (.cells #[.int .i64 (i : Int)] 46) none
      have hgw2 := hgw1.andThen hA (fun j hj => by cases hj)
      have hrg2 := hrg1.kept hA (by simp) (by simp)
      have hct := cut1_any _ (i : Int) c bx q (hgw2.cell HC.out (by simpa using hbx))
      have hw1 : w1.heap.size < (w1.alloc (.cells #[.int .i64 (i : Int)] 46)).heap.size := by simp
      have hBl := Blk.new w1 #[.int .i64 (i : Int)] 46
      have d0 : (w1.alloc (.cells #[.int .i64 (i : Int)] 46)).cell? ⟨w1.heap.size, 0, none⟩ = some (.int .i64 (i : Int)) := hBl.cell 0
      have HEN := hide hen
      clear hA hBl
      have HN : Hid (∀ z, left z = true → ∃ i : Nat, i < 64 ∧ z = pageK i) := hide HLK.out
      by_cases hq : q ≤ (i : Int)
      · rw [decide_eq_true hq] at hct
        go_wp2_with fail
        refine hct.mono ?_
        rintro e w2 ⟨rfl, hb2⟩
        have hrg3 := hrg2.kept (below_grown hb2 none) (by simp) (by simp)
        have hgw3 := hgw2.andThen (below_grown hb2 none) (fun j hj => by cases hj)
        have d2 := kl_cell hb2 d0
        rw [hs1] at d2
        go_wp2_with (at_delete; refine wpList_delete_ranges _ rfl _ _ 42 46 rfl 3 keyedPg Try.underlying42 asIt b w.heap.size n _ _ _ rfl hrg3 (.agg #[.int .i64 (i : Int)]) (pageK i) rfl (keyOf_pg i (wf64 hi)) ?_)
        intro w3 cnt3 hrg4 hle hturn
        try rw [strike_twice] at hrg4
        have hgw4 := hgw3.andThen hturn.grown (fun j hj => by cases hj; exact Or.inr rfl)
        have HR4 := hide hrg4
        have HLE := hide hle
        clear hturn hrg4 hle hrg3 hrg2 hrg1 hen d2 d0
        go_wp2
        refine ⟨⟨_, cnt3, ⟨_, HR4.out, fun j hj z => ?_, fun kl' hk' => ?_, fun kl' hk' => HLK.out kl' (by simp at hk'; exact hk'.1)⟩, hgw4⟩, ?_⟩
        · by_cases e : j = i
          · subst e
            rw [cutL_same hj hq, atKey_del_same]
            rfl
          · rw [cutL_other hi hj e, atKey_del_other (fun e2 => e (by have := pageK_inj (wf64 hj) (wf64 hi) e2; omega))]
            exact HAT.out j hj z
        · by_cases e : kl' = pageK i
          · rw [e, has_del_same] at hk'; cases hk'
          · rw [has_del_other e] at hk'; exact HKS.out kl' hk'
        · rw [HR4.out.left_eq, hrg.left_eq]; have := HLE.out; omega
      · rw [decide_eq_false hq] at hct
        go_wp2_with (first
          | (go_at_call 16; refine hct.mono ?_; rintro e w2 ⟨rfl, hb2⟩)
          | go_in)
        have hrg3 := hrg2.kept (below_grown hb2 none) (by simp) (by simp)
        have hgw3 := hgw2.andThen (below_grown hb2 none) (fun j hj => by cases hj)
        go_roundw
        case rel => exact ⟨_, cnt1, ⟨_, hrg3, fun j hj z => by rw [cutL_stays hi hj (by omega)]; exact HAT.out j hj z, HKS.out, fun kl' hk' => HLK.out kl' (by simp at hk'; exact hk'.1)⟩, hgw3⟩
        case measure => rw [hrg3.left_eq, hrg.left_eq]; exact hlt
end Go.Proofs.Ytdjpnoolbpnpiaa
