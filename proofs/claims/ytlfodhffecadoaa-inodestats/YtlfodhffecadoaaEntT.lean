/-
  Entries: Right; the document's.
-/
import Derived.Test.YtlfodhffecadoaaEntK
import Derived.Test.YtlfodhffecadoaaAnyH
namespace Go.Proofs.Ytlfodhffecadoaa
open Go.RowKit
set_option linter.unusedVariables false
set_option linter.unusedSimpArgs false
set_option maxRecDepth 100000

theorem two_step {c : Nat} {x y : Value} {w0 w w' : World} (hb : Below w.heap.size w w') (h : (w.cell? ⟨c, 0, none⟩ = some x ∧ w.cell? ⟨c, 1, none⟩ = some y) ∧ Below w0.heap.size w0 w) :
    (w'.cell? ⟨c, 0, none⟩ = some x ∧ w'.cell? ⟨c, 1, none⟩ = some y) ∧ Below w0.heap.size w0 w' := ⟨⟨kl_cell hb h.1.1, kl_cell hb h.1.2⟩, kl_step hb h.2⟩
theorem two_below {w0 w : World} {A : Prop} (h : A ∧ Below w0.heap.size w0 w) : Below w0.heap.size w0 w := h.2
theorem thr_step {b o c : Nat} {x y z : Value} {w0 w w' : World} (hb : Below w.heap.size w w') (h : (w.cell? ⟨b, o, none⟩ = some z ∧ w.cell? ⟨c, 0, none⟩ = some x ∧ w.cell? ⟨c, 1, none⟩ = some y) ∧ Below w0.heap.size w0 w) :
    (w'.cell? ⟨b, o, none⟩ = some z ∧ w'.cell? ⟨c, 0, none⟩ = some x ∧ w'.cell? ⟨c, 1, none⟩ = some y) ∧ Below w0.heap.size w0 w' := ⟨⟨kl_cell hb h.1.1, kl_cell hb h.1.2.1, kl_cell hb h.1.2.2⟩, kl_step hb h.2⟩
theorem getD_memE {l : List En} {k : Nat} (h : k < l.length) : l.getD k default ∈ l := by
  rw [show l.getD k default = l[k] from by simp [List.getD, List.getElem?_eq_getElem h]]; exact List.getElem_mem h
/-- These may stand where they stand. -/
def SoFar (l : List En) (k : Nat) : Prop := ∀ i, i < k → stepE l i = true
theorem SoFar.zero (l : List En) : SoFar l 0 := fun i hi => absurd hi (Nat.not_lt_zero _)
theorem SoFar.more {l : List En} {k : Nat} (h : SoFar l k) (hs : stepE l k = true) : SoFar l (k + 1) := fun i hi => by
  by_cases e : i = k
  · subst e; exact hs
  · exact h i (by omega)
theorem stepE_name {l : List En} {k : Nat} (h : rightN (bl (l.getD k default).s) = false) : stepE l k = false := by unfold stepE; rw [h]; rfl
theorem stepE_no {l : List En} {k : Nat} (h : (l.getD k default).n ≤ 0) : stepE l k = false := by
  unfold stepE; rw [decide_eq_false (show ¬ 0 < (l.getD k default).n by omega), Bool.and_false]; rfl
theorem stepE_zero {l : List En} (h : rightN (bl (l.getD 0 default).s) = true) (h2 : 0 < (l.getD 0 default).n) : stepE l 0 = true := by
  unfold stepE; rw [h, decide_eq_true h2]; rfl
theorem stepE_more {l : List En} {k : Nat} (h : rightN (bl (l.getD k default).s) = true) (h2 : 0 < (l.getD k default).n) (hk : k ≠ 0) : stepE l k = decide (bl (l.getD (k - 1) default).s < bl (l.getD k default).s) := by
  unfold stepE; rw [h, decide_eq_true h2, decide_eq_false hk]; rfl

set_option maxHeartbeats 4000000 in
theorem RightE_any (w : World) (v : Value) (l : List En) (h : ERow w v l) : Calls Try.prog 38 #[v] w (SaysB (rightE l) w) := by
  have hlr := h.lenRun
  have hlm := h.len
  unfold maxLen at hlm
  have HR := hide h
  clear h
  obtain ⟨len, hL⟩ : ∃ n, l.length = n := ⟨_, rfl⟩
  have HL := hide hL
  rw [hL] at hlm
  simp only [hL] at hlr
  clear hL
  by_cases hlong : 100 < len
  · have HF := hide (rightE_long (l := l) (by rw [HL.out]; exact hlong))
    go_enter Try.func38, Try.ntmps38
    go_wp2
    go_ret
    exact ⟨ret_one (congrArg Value.bool HF.out.symm), Below.refl _ _⟩
  · have hl100 : ¬ (100 : Int) < len := by omega
    go_enter Try.func38, Try.ntmps38
    go_wp2
    go_loopw [10] (fun i wr => ∃ k : Nat, k ≤ len ∧ i = .int .i64 k ∧ Hid (SoFar l k) ∧ Below w.heap.size w wr) (fun i _ => len - (intOf i).toNat)
    case atStart => exact ⟨0, Nat.zero_le _, rfl, hide (SoFar.zero l), Below.refl _ _⟩
    case round =>
      obtain ⟨k, hk, rfl, HN, hbk⟩ := hrel
      by_cases hlt : k < len
      · have hlt' : (k : Int) < len := by omega
        have hkl : k < l.length := by rw [HL.out]; exact hlt
        obtain ⟨b, o, hbs, hix, c0, c1⟩ := (HR.out.below hbk).idx k hkl
        have hwf := HR.out.2 _ (getD_memE hkl)
        have hbad := fun (hs : stepE l k = false) => rightE_bad hkl hs
        have hnm := stepE_name (l := l) (k := k)
        have hno := stepE_no (l := l) (k := k)
        have hze : k = 0 → rightN (bl (l.getD k default).s) = true → 0 < (l.getD k default).n → stepE l k = true := fun e => by subst e; exact stepE_zero
        have hmo := stepE_more (l := l) (k := k)
        have hprev := fun (h0 : 0 < k) => (HR.out.below hbk).idx (k - 1) (by omega)
        generalize l.getD k default = x at *
        obtain ⟨xs, xn⟩ := x
        simp only at c0 c1 hnm hno hze hmo
        have hri := fun w => Right_any w xs hwf.s
        have hBl := Blk.new wr #[.string xs, .int .i64 xn] 38
        have hB1 : Below w.heap.size w (wr.alloc (.cells #[.string xs, .int .i64 xn] 38)) := hbk.alloc hbk.size _
        have e0 : (wr.alloc (.cells #[.string xs, .int .i64 xn] 38)).cell? ⟨wr.heap.size, 0, none⟩ = some (.string xs) := hBl.cell 0
        have e1 : (wr.alloc (.cells #[.string xs, .int .i64 xn] 38)).cell? ⟨wr.heap.size, 1, none⟩ = some (.int .i64 xn) := hBl.cell 1
        cases hr : rightN (bl xs) with
        | false =>
          simp only [hr] at hri
          have HF := hide (hbad (hnm hr))
          clear hprev hr hBl hbad hnm hno hze hmo hwf hbk
          go_wp2_with fail
          generalize wr.alloc (.cells #[.string xs, .int .i64 xn] 38) = W at *
          generalize wr.heap.size = c at *
          have HS := hide (show ((W.cell? ⟨c, 0, none⟩ = some (.string xs) ∧ W.cell? ⟨c, 1, none⟩ = some (.int .i64 xn)) ∧ Below w.heap.size w W) from ⟨⟨e0, e1⟩, hB1⟩)
          clear e0 e1 hB1
          refine wp_region_held_drew (S := fun w' => (w'.cell? ⟨c, 0, none⟩ = some (.string xs) ∧ w'.cell? ⟨c, 1, none⟩ = some (.int .i64 xn)) ∧ Below w.heap.size w w') (by kernel_rfl) (two_step (kl_drew _) HS.out) (fun hHeld => ?_)
          refine any_yes 0 (.pointer (some ⟨c, 0, none⟩)) rfl (by kernel_rfl) (by kernel_rfl) (by kernel_rfl) (fun _ _ _ h => h) (by rfl) (by intro w hSw; obtain ⟨⟨g0, g1⟩, g3⟩ := hSw; go_simp) (by assumption) ?_
          try simp only [Act.put, List.setIfInBounds_toArray, List.set_cons_zero, List.set_cons_succ]
          refine any_yes 1 (.string xs) rfl (by kernel_rfl) (by kernel_rfl) (by kernel_rfl) (fun _ _ _ h => h) (by rfl) (by intro w hSw; obtain ⟨⟨g0, g1⟩, g3⟩ := hSw; go_simp) (by assumption) ?_
          try simp only [Act.put, List.setIfInBounds_toArray, List.set_cons_zero, List.set_cons_succ]
          refine any_one 2 (by kernel_rfl) rfl (by rfl) (fun K' hK => ?_)
          go_simp
          refine (hri _).mono ?_
          rintro x w9 ⟨rfl, hb9⟩
          go_simp
          refine hK.out _ _ (two_step hb9 hHeld) (fun hHeld2 => ?_)
          clear hK K'
          try simp only [Act.put, List.setIfInBounds_toArray, List.set_cons_zero, List.set_cons_succ]
          refine any_yes 3 (.bool true) rfl (by kernel_rfl) (by kernel_rfl) (by kernel_rfl) (fun _ _ _ h => h) (by rfl) (by intro w hSw; obtain ⟨⟨g0, g1⟩, g3⟩ := hSw; go_simp) (by assumption) ?_
          try simp only [Act.put, List.setIfInBounds_toArray, List.set_cons_zero, List.set_cons_succ]
          refine any_yes 4 (.bool true) rfl (by kernel_rfl) (by kernel_rfl) (by kernel_rfl) (fun _ _ _ h => h) (by rfl) (by intro w hSw; obtain ⟨⟨g0, g1⟩, g3⟩ := hSw; go_simp) (by assumption) ?_
          try simp only [Act.put, List.setIfInBounds_toArray, List.set_cons_zero, List.set_cons_succ]
          refine any_no 5 rfl (by kernel_rfl) (by kernel_rfl) (by kernel_rfl) (fun _ _ _ h => h) (by rfl) (by assumption) ?_
          try simp only [Act.put, List.setIfInBounds_toArray, List.set_cons_zero, List.set_cons_succ]
          refine any_no 6 rfl (by kernel_rfl) (by kernel_rfl) (by kernel_rfl) (fun _ _ _ h => h) (by rfl) (by assumption) ?_
          try simp only [Act.put, List.setIfInBounds_toArray, List.set_cons_zero, List.set_cons_succ]
          refine any_no 7 rfl (by kernel_rfl) (by kernel_rfl) (by kernel_rfl) (fun _ _ _ h => h) (by rfl) (by assumption) ?_
          try simp only [Act.put, List.setIfInBounds_toArray, List.set_cons_zero, List.set_cons_succ]
          refine any_yes 8 (.bool true) rfl (by kernel_rfl) (by kernel_rfl) (by kernel_rfl) (fun _ _ _ h => h) (by rfl) (by intro w hSw; obtain ⟨⟨g0, g1⟩, g3⟩ := hSw; go_simp) (by assumption) ?_
          try simp only [Act.put, List.setIfInBounds_toArray, List.set_cons_zero, List.set_cons_succ]
          refine any_yes 9 (.bool true) rfl (by kernel_rfl) (by kernel_rfl) (by kernel_rfl) (fun _ _ _ h => h) (by rfl) (by intro w hSw; obtain ⟨⟨g0, g1⟩, g3⟩ := hSw; go_simp) (by assumption) ?_
          try simp only [Act.put, List.setIfInBounds_toArray, List.set_cons_zero, List.set_cons_succ]
          refine any_no 10 rfl (by kernel_rfl) (by kernel_rfl) (by kernel_rfl) (fun _ _ _ h => h) (by rfl) (by assumption) ?_
          try simp only [Act.put, List.setIfInBounds_toArray, List.set_cons_zero, List.set_cons_succ]
          refine any_no 11 rfl (by kernel_rfl) (by kernel_rfl) (by kernel_rfl) (fun _ _ _ h => h) (by rfl) (by assumption) ?_
          try simp only [Act.put, List.setIfInBounds_toArray, List.set_cons_zero, List.set_cons_succ]
          refine any_no 12 rfl (by kernel_rfl) (by kernel_rfl) (by kernel_rfl) (fun _ _ _ h => h) (by rfl) (by assumption) ?_
          try simp only [Act.put, List.setIfInBounds_toArray, List.set_cons_zero, List.set_cons_succ]
          refine any_no 13 rfl (by kernel_rfl) (by kernel_rfl) (by kernel_rfl) (fun _ _ _ h => h) (by rfl) (by assumption) ?_
          try simp only [Act.put, List.setIfInBounds_toArray, List.set_cons_zero, List.set_cons_succ]
          refine any_no 14 rfl (by kernel_rfl) (by kernel_rfl) (by kernel_rfl) (fun _ _ _ h => h) (by rfl) (by assumption) ?_
          try simp only [Act.put, List.setIfInBounds_toArray, List.set_cons_zero, List.set_cons_succ]
          refine any_no 15 rfl (by kernel_rfl) (by kernel_rfl) (by kernel_rfl) (fun _ _ _ h => h) (by rfl) (by assumption) ?_
          try simp only [Act.put, List.setIfInBounds_toArray, List.set_cons_zero, List.set_cons_succ]
          refine any_no 16 rfl (by kernel_rfl) (by kernel_rfl) (by kernel_rfl) (fun _ _ _ h => h) (by rfl) (by assumption) ?_
          try simp only [Act.put, List.setIfInBounds_toArray, List.set_cons_zero, List.set_cons_succ]
          refine any_no 17 rfl (by kernel_rfl) (by kernel_rfl) (by kernel_rfl) (fun _ _ _ h => h) (by rfl) (by assumption) ?_
          try simp only [Act.put, List.setIfInBounds_toArray, List.set_cons_zero, List.set_cons_succ]
          refine any_no 18 rfl (by kernel_rfl) (by kernel_rfl) (by kernel_rfl) (fun _ _ _ h => h) (by rfl) (by assumption) ?_
          try simp only [Act.put, List.setIfInBounds_toArray, List.set_cons_zero, List.set_cons_succ]
          refine any_no 19 rfl (by kernel_rfl) (by kernel_rfl) (by kernel_rfl) (fun _ _ _ h => h) (by rfl) (by assumption) ?_
          try simp only [Act.put, List.setIfInBounds_toArray, List.set_cons_zero, List.set_cons_succ]
          refine any_no 20 rfl (by kernel_rfl) (by kernel_rfl) (by kernel_rfl) (fun _ _ _ h => h) (by rfl) (by assumption) ?_
          try simp only [Act.put, List.setIfInBounds_toArray, List.set_cons_zero, List.set_cons_succ]
          refine any_no 21 rfl (by kernel_rfl) (by kernel_rfl) (by kernel_rfl) (fun _ _ _ h => h) (by rfl) (by assumption) ?_
          try simp only [Act.put, List.setIfInBounds_toArray, List.set_cons_zero, List.set_cons_succ]
          refine any_no 22 rfl (by kernel_rfl) (by kernel_rfl) (by kernel_rfl) (fun _ _ _ h => h) (by rfl) (by assumption) ?_
          try simp only [Act.put, List.setIfInBounds_toArray, List.set_cons_zero, List.set_cons_succ]
          refine any_yes 23 (.bool true) rfl (by kernel_rfl) (by kernel_rfl) (by kernel_rfl) (fun _ _ _ h => h) (by rfl) (by intro w hSw; obtain ⟨⟨g0, g1⟩, g3⟩ := hSw; go_simp) (by assumption) ?_
          try simp only [Act.put, List.setIfInBounds_toArray, List.set_cons_zero, List.set_cons_succ]
          refine wpAnyH_done (by kernel_rfl) ?_ _
          go_wp2
          go_ret
          exact ⟨ret_one (congrArg Value.bool HF.out.symm), two_below hHeld2⟩
        | true =>
          simp only [hr] at hri
          by_cases hn0 : xn ≤ 0
          · have HF := hide (hbad (hno hn0))
            clear hprev hr hBl hbad hnm hno hze hmo hwf hbk
            go_wp2_with fail
            generalize wr.alloc (.cells #[.string xs, .int .i64 xn] 38) = W at *
            generalize wr.heap.size = c at *
            have HS := hide (show ((W.cell? ⟨c, 0, none⟩ = some (.string xs) ∧ W.cell? ⟨c, 1, none⟩ = some (.int .i64 xn)) ∧ Below w.heap.size w W) from ⟨⟨e0, e1⟩, hB1⟩)
            clear e0 e1 hB1
            refine wp_region_held_drew (S := fun w' => (w'.cell? ⟨c, 0, none⟩ = some (.string xs) ∧ w'.cell? ⟨c, 1, none⟩ = some (.int .i64 xn)) ∧ Below w.heap.size w w') (by kernel_rfl) (two_step (kl_drew _) HS.out) (fun hHeld => ?_)
            refine any_yes 0 (.pointer (some ⟨c, 0, none⟩)) rfl (by kernel_rfl) (by kernel_rfl) (by kernel_rfl) (fun _ _ _ h => h) (by rfl) (by intro w hSw; obtain ⟨⟨g0, g1⟩, g3⟩ := hSw; go_simp) (by assumption) ?_
            try simp only [Act.put, List.setIfInBounds_toArray, List.set_cons_zero, List.set_cons_succ]
            refine any_yes 1 (.string xs) rfl (by kernel_rfl) (by kernel_rfl) (by kernel_rfl) (fun _ _ _ h => h) (by rfl) (by intro w hSw; obtain ⟨⟨g0, g1⟩, g3⟩ := hSw; go_simp) (by assumption) ?_
            try simp only [Act.put, List.setIfInBounds_toArray, List.set_cons_zero, List.set_cons_succ]
            refine any_one 2 (by kernel_rfl) rfl (by rfl) (fun K' hK => ?_)
            go_simp
            refine (hri _).mono ?_
            rintro x w9 ⟨rfl, hb9⟩
            go_simp
            refine hK.out _ _ (two_step hb9 hHeld) (fun hHeld2 => ?_)
            clear hK K'
            try simp only [Act.put, List.setIfInBounds_toArray, List.set_cons_zero, List.set_cons_succ]
            refine any_yes 3 (.bool false) rfl (by kernel_rfl) (by kernel_rfl) (by kernel_rfl) (fun _ _ _ h => h) (by rfl) (by intro w hSw; obtain ⟨⟨g0, g1⟩, g3⟩ := hSw; go_simp) (by assumption) ?_
            try simp only [Act.put, List.setIfInBounds_toArray, List.set_cons_zero, List.set_cons_succ]
            refine any_yes 4 (.bool false) rfl (by kernel_rfl) (by kernel_rfl) (by kernel_rfl) (fun _ _ _ h => h) (by rfl) (by intro w hSw; obtain ⟨⟨g0, g1⟩, g3⟩ := hSw; go_simp) (by assumption) ?_
            try simp only [Act.put, List.setIfInBounds_toArray, List.set_cons_zero, List.set_cons_succ]
            refine any_yes 5 (.pointer (some ⟨c, 1, none⟩)) rfl (by kernel_rfl) (by kernel_rfl) (by kernel_rfl) (fun _ _ _ h => h) (by rfl) (by intro w hSw; obtain ⟨⟨g0, g1⟩, g3⟩ := hSw; go_simp) (by assumption) ?_
            try simp only [Act.put, List.setIfInBounds_toArray, List.set_cons_zero, List.set_cons_succ]
            refine any_yes 6 (.int .i64 xn) rfl (by kernel_rfl) (by kernel_rfl) (by kernel_rfl) (fun _ _ _ h => h) (by rfl) (by intro w hSw; obtain ⟨⟨g0, g1⟩, g3⟩ := hSw; go_simp) (by assumption) ?_
            try simp only [Act.put, List.setIfInBounds_toArray, List.set_cons_zero, List.set_cons_succ]
            refine any_yes 7 (.bool true) rfl (by kernel_rfl) (by kernel_rfl) (by kernel_rfl) (fun _ _ _ h => h) (by rfl) (by intro w hSw; obtain ⟨⟨g0, g1⟩, g3⟩ := hSw; go_simp) (by assumption) ?_
            try simp only [Act.put, List.setIfInBounds_toArray, List.set_cons_zero, List.set_cons_succ]
            refine any_yes 8 (.bool true) rfl (by kernel_rfl) (by kernel_rfl) (by kernel_rfl) (fun _ _ _ h => h) (by rfl) (by intro w hSw; obtain ⟨⟨g0, g1⟩, g3⟩ := hSw; go_simp) (by assumption) ?_
            try simp only [Act.put, List.setIfInBounds_toArray, List.set_cons_zero, List.set_cons_succ]
            refine any_yes 9 (.bool true) rfl (by kernel_rfl) (by kernel_rfl) (by kernel_rfl) (fun _ _ _ h => h) (by rfl) (by intro w hSw; obtain ⟨⟨g0, g1⟩, g3⟩ := hSw; go_simp) (by assumption) ?_
            try simp only [Act.put, List.setIfInBounds_toArray, List.set_cons_zero, List.set_cons_succ]
            refine any_no 10 rfl (by kernel_rfl) (by kernel_rfl) (by kernel_rfl) (fun _ _ _ h => h) (by rfl) (by assumption) ?_
            try simp only [Act.put, List.setIfInBounds_toArray, List.set_cons_zero, List.set_cons_succ]
            refine any_no 11 rfl (by kernel_rfl) (by kernel_rfl) (by kernel_rfl) (fun _ _ _ h => h) (by rfl) (by assumption) ?_
            try simp only [Act.put, List.setIfInBounds_toArray, List.set_cons_zero, List.set_cons_succ]
            refine any_no 12 rfl (by kernel_rfl) (by kernel_rfl) (by kernel_rfl) (fun _ _ _ h => h) (by rfl) (by assumption) ?_
            try simp only [Act.put, List.setIfInBounds_toArray, List.set_cons_zero, List.set_cons_succ]
            refine any_no 13 rfl (by kernel_rfl) (by kernel_rfl) (by kernel_rfl) (fun _ _ _ h => h) (by rfl) (by assumption) ?_
            try simp only [Act.put, List.setIfInBounds_toArray, List.set_cons_zero, List.set_cons_succ]
            refine any_no 14 rfl (by kernel_rfl) (by kernel_rfl) (by kernel_rfl) (fun _ _ _ h => h) (by rfl) (by assumption) ?_
            try simp only [Act.put, List.setIfInBounds_toArray, List.set_cons_zero, List.set_cons_succ]
            refine any_no 15 rfl (by kernel_rfl) (by kernel_rfl) (by kernel_rfl) (fun _ _ _ h => h) (by rfl) (by assumption) ?_
            try simp only [Act.put, List.setIfInBounds_toArray, List.set_cons_zero, List.set_cons_succ]
            refine any_no 16 rfl (by kernel_rfl) (by kernel_rfl) (by kernel_rfl) (fun _ _ _ h => h) (by rfl) (by assumption) ?_
            try simp only [Act.put, List.setIfInBounds_toArray, List.set_cons_zero, List.set_cons_succ]
            refine any_no 17 rfl (by kernel_rfl) (by kernel_rfl) (by kernel_rfl) (fun _ _ _ h => h) (by rfl) (by assumption) ?_
            try simp only [Act.put, List.setIfInBounds_toArray, List.set_cons_zero, List.set_cons_succ]
            refine any_no 18 rfl (by kernel_rfl) (by kernel_rfl) (by kernel_rfl) (fun _ _ _ h => h) (by rfl) (by assumption) ?_
            try simp only [Act.put, List.setIfInBounds_toArray, List.set_cons_zero, List.set_cons_succ]
            refine any_no 19 rfl (by kernel_rfl) (by kernel_rfl) (by kernel_rfl) (fun _ _ _ h => h) (by rfl) (by assumption) ?_
            try simp only [Act.put, List.setIfInBounds_toArray, List.set_cons_zero, List.set_cons_succ]
            refine any_no 20 rfl (by kernel_rfl) (by kernel_rfl) (by kernel_rfl) (fun _ _ _ h => h) (by rfl) (by assumption) ?_
            try simp only [Act.put, List.setIfInBounds_toArray, List.set_cons_zero, List.set_cons_succ]
            refine any_no 21 rfl (by kernel_rfl) (by kernel_rfl) (by kernel_rfl) (fun _ _ _ h => h) (by rfl) (by assumption) ?_
            try simp only [Act.put, List.setIfInBounds_toArray, List.set_cons_zero, List.set_cons_succ]
            refine any_no 22 rfl (by kernel_rfl) (by kernel_rfl) (by kernel_rfl) (fun _ _ _ h => h) (by rfl) (by assumption) ?_
            try simp only [Act.put, List.setIfInBounds_toArray, List.set_cons_zero, List.set_cons_succ]
            refine any_yes 23 (.bool true) rfl (by kernel_rfl) (by kernel_rfl) (by kernel_rfl) (fun _ _ _ h => h) (by rfl) (by intro w hSw; obtain ⟨⟨g0, g1⟩, g3⟩ := hSw; go_simp) (by assumption) ?_
            try simp only [Act.put, List.setIfInBounds_toArray, List.set_cons_zero, List.set_cons_succ]
            refine wpAnyH_done (by kernel_rfl) ?_ _
            go_wp2
            go_ret
            exact ⟨ret_one (congrArg Value.bool HF.out.symm), two_below hHeld2⟩
          · have hn1 : 0 < xn := by omega
            by_cases hk0 : k = 0
            · have HN1 : Hid (SoFar l 1) := by have := hide (HN.out.more (hze hk0 hr hn1)); rwa [hk0] at this
              subst hk0
              have hix0 : ∀ w', (Instr.indexAt 22 v (.int .i64 0)).run Try.prog w' = .ok (.pointer (some ⟨b, o, none⟩)) w' := hix
              have hn2 : (xn ≤ 0) = False := by simpa using hn0
              clear hprev hr hBl hbad hnm hno hze hmo hwf hbk hn0
              go_wp2_with fail
              generalize wr.alloc (.cells #[.string xs, .int .i64 xn] 38) = W at *
              generalize wr.heap.size = c at *
              have HS := hide (show ((W.cell? ⟨c, 0, none⟩ = some (.string xs) ∧ W.cell? ⟨c, 1, none⟩ = some (.int .i64 xn)) ∧ Below w.heap.size w W) from ⟨⟨e0, e1⟩, hB1⟩)
              clear e0 e1 hB1
              refine wp_region_held_drew (S := fun w' => (w'.cell? ⟨c, 0, none⟩ = some (.string xs) ∧ w'.cell? ⟨c, 1, none⟩ = some (.int .i64 xn)) ∧ Below w.heap.size w w') (by kernel_rfl) (two_step (kl_drew _) HS.out) (fun hHeld => ?_)
              refine any_yes 0 (.pointer (some ⟨c, 0, none⟩)) rfl (by kernel_rfl) (by kernel_rfl) (by kernel_rfl) (fun _ _ _ h => h) (by rfl) (by intro w hSw; obtain ⟨⟨g0, g1⟩, g3⟩ := hSw; go_simp) (by assumption) ?_
              try simp only [Act.put, List.setIfInBounds_toArray, List.set_cons_zero, List.set_cons_succ]
              refine any_yes 1 (.string xs) rfl (by kernel_rfl) (by kernel_rfl) (by kernel_rfl) (fun _ _ _ h => h) (by rfl) (by intro w hSw; obtain ⟨⟨g0, g1⟩, g3⟩ := hSw; go_simp) (by assumption) ?_
              try simp only [Act.put, List.setIfInBounds_toArray, List.set_cons_zero, List.set_cons_succ]
              refine any_one 2 (by kernel_rfl) rfl (by rfl) (fun K' hK => ?_)
              go_simp
              refine (hri _).mono ?_
              rintro x w9 ⟨rfl, hb9⟩
              go_simp
              refine hK.out _ _ (two_step hb9 hHeld) (fun hHeld2 => ?_)
              clear hK K'
              try simp only [Act.put, List.setIfInBounds_toArray, List.set_cons_zero, List.set_cons_succ]
              refine any_yes 3 (.bool false) rfl (by kernel_rfl) (by kernel_rfl) (by kernel_rfl) (fun _ _ _ h => h) (by rfl) (by intro w hSw; obtain ⟨⟨g0, g1⟩, g3⟩ := hSw; go_simp) (by assumption) ?_
              try simp only [Act.put, List.setIfInBounds_toArray, List.set_cons_zero, List.set_cons_succ]
              refine any_yes 4 (.bool false) rfl (by kernel_rfl) (by kernel_rfl) (by kernel_rfl) (fun _ _ _ h => h) (by rfl) (by intro w hSw; obtain ⟨⟨g0, g1⟩, g3⟩ := hSw; go_simp) (by assumption) ?_
              try simp only [Act.put, List.setIfInBounds_toArray, List.set_cons_zero, List.set_cons_succ]
              refine any_yes 5 (.pointer (some ⟨c, 1, none⟩)) rfl (by kernel_rfl) (by kernel_rfl) (by kernel_rfl) (fun _ _ _ h => h) (by rfl) (by intro w hSw; obtain ⟨⟨g0, g1⟩, g3⟩ := hSw; go_simp) (by assumption) ?_
              try simp only [Act.put, List.setIfInBounds_toArray, List.set_cons_zero, List.set_cons_succ]
              refine any_yes 6 (.int .i64 xn) rfl (by kernel_rfl) (by kernel_rfl) (by kernel_rfl) (fun _ _ _ h => h) (by rfl) (by intro w hSw; obtain ⟨⟨g0, g1⟩, g3⟩ := hSw; go_simp) (by assumption) ?_
              try simp only [Act.put, List.setIfInBounds_toArray, List.set_cons_zero, List.set_cons_succ]
              refine any_yes 7 (.bool false) rfl (by kernel_rfl) (by kernel_rfl) (by kernel_rfl) (fun _ _ _ h => h) (by rfl) (by intro w hSw; obtain ⟨⟨g0, g1⟩, g3⟩ := hSw; go_simp) (by assumption) ?_
              try simp only [Act.put, List.setIfInBounds_toArray, List.set_cons_zero, List.set_cons_succ]
              refine any_yes 8 (.bool false) rfl (by kernel_rfl) (by kernel_rfl) (by kernel_rfl) (fun _ _ _ h => h) (by rfl) (by intro w hSw; obtain ⟨⟨g0, g1⟩, g3⟩ := hSw; go_simp) (by assumption) ?_
              try simp only [Act.put, List.setIfInBounds_toArray, List.set_cons_zero, List.set_cons_succ]
              refine any_yes 9 (.bool false) rfl (by kernel_rfl) (by kernel_rfl) (by kernel_rfl) (fun _ _ _ h => h) (by rfl) (by intro w hSw; obtain ⟨⟨g0, g1⟩, g3⟩ := hSw; go_simp) (by assumption) ?_
              try simp only [Act.put, List.setIfInBounds_toArray, List.set_cons_zero, List.set_cons_succ]
              refine any_yes 10 (.int .i64 0) rfl (by kernel_rfl) (by kernel_rfl) (by kernel_rfl) (fun _ _ _ h => h) (by rfl) (by intro w hSw; obtain ⟨⟨g0, g1⟩, g3⟩ := hSw; go_simp) (by assumption) ?_
              try simp only [Act.put, List.setIfInBounds_toArray, List.set_cons_zero, List.set_cons_succ]
              refine any_yes 11 (.bool false) rfl (by kernel_rfl) (by kernel_rfl) (by kernel_rfl) (fun _ _ _ h => h) (by rfl) (by intro w hSw; obtain ⟨⟨g0, g1⟩, g3⟩ := hSw; go_simp) (by assumption) ?_
              try simp only [Act.put, List.setIfInBounds_toArray, List.set_cons_zero, List.set_cons_succ]
              refine any_yes 12 (.bool false) rfl (by kernel_rfl) (by kernel_rfl) (by kernel_rfl) (fun _ _ _ h => h) (by rfl) (by intro w hSw; obtain ⟨⟨g0, g1⟩, g3⟩ := hSw; go_simp) (by assumption) ?_
              try simp only [Act.put, List.setIfInBounds_toArray, List.set_cons_zero, List.set_cons_succ]
              refine any_no 13 rfl (by kernel_rfl) (by kernel_rfl) (by kernel_rfl) (fun _ _ _ h => h) (by rfl) (by assumption) ?_
              try simp only [Act.put, List.setIfInBounds_toArray, List.set_cons_zero, List.set_cons_succ]
              refine any_no 14 rfl (by kernel_rfl) (by kernel_rfl) (by kernel_rfl) (fun _ _ _ h => h) (by rfl) (by assumption) ?_
              try simp only [Act.put, List.setIfInBounds_toArray, List.set_cons_zero, List.set_cons_succ]
              refine any_no 15 rfl (by kernel_rfl) (by kernel_rfl) (by kernel_rfl) (fun _ _ _ h => h) (by rfl) (by assumption) ?_
              try simp only [Act.put, List.setIfInBounds_toArray, List.set_cons_zero, List.set_cons_succ]
              refine any_no 16 rfl (by kernel_rfl) (by kernel_rfl) (by kernel_rfl) (fun _ _ _ h => h) (by rfl) (by assumption) ?_
              try simp only [Act.put, List.setIfInBounds_toArray, List.set_cons_zero, List.set_cons_succ]
              refine any_no 17 rfl (by kernel_rfl) (by kernel_rfl) (by kernel_rfl) (fun _ _ _ h => h) (by rfl) (by assumption) ?_
              try simp only [Act.put, List.setIfInBounds_toArray, List.set_cons_zero, List.set_cons_succ]
              refine any_no 18 rfl (by kernel_rfl) (by kernel_rfl) (by kernel_rfl) (fun _ _ _ h => h) (by rfl) (by assumption) ?_
              try simp only [Act.put, List.setIfInBounds_toArray, List.set_cons_zero, List.set_cons_succ]
              refine any_no 19 rfl (by kernel_rfl) (by kernel_rfl) (by kernel_rfl) (fun _ _ _ h => h) (by rfl) (by assumption) ?_
              try simp only [Act.put, List.setIfInBounds_toArray, List.set_cons_zero, List.set_cons_succ]
              refine any_no 20 rfl (by kernel_rfl) (by kernel_rfl) (by kernel_rfl) (fun _ _ _ h => h) (by rfl) (by assumption) ?_
              try simp only [Act.put, List.setIfInBounds_toArray, List.set_cons_zero, List.set_cons_succ]
              refine any_no 21 rfl (by kernel_rfl) (by kernel_rfl) (by kernel_rfl) (fun _ _ _ h => h) (by rfl) (by assumption) ?_
              try simp only [Act.put, List.setIfInBounds_toArray, List.set_cons_zero, List.set_cons_succ]
              refine any_yes 22 (.bool false) rfl (by kernel_rfl) (by kernel_rfl) (by kernel_rfl) (fun _ _ _ h => h) (by rfl) (by intro w hSw; obtain ⟨⟨g0, g1⟩, g3⟩ := hSw; go_simp) (by assumption) ?_
              try simp only [Act.put, List.setIfInBounds_toArray, List.set_cons_zero, List.set_cons_succ]
              refine any_yes 23 (.bool false) rfl (by kernel_rfl) (by kernel_rfl) (by kernel_rfl) (fun _ _ _ h => h) (by rfl) (by intro w hSw; obtain ⟨⟨g0, g1⟩, g3⟩ := hSw; go_simp) (by assumption) ?_
              try simp only [Act.put, List.setIfInBounds_toArray, List.set_cons_zero, List.set_cons_succ]
              refine wpAnyH_done (by kernel_rfl) ?_ _
              go_wp2
              exact ⟨⟨1, by omega, by go_num, HN1, two_below hHeld2⟩, by simp [intOf]; omega⟩
            · obtain ⟨b', o', hbs', hix', p0, p1⟩ := hprev (by omega)
              have hst := hmo hr hn1 hk0
              generalize l.getD (k - 1) default = p at *
              obtain ⟨ps, pn⟩ := p
              simp only at p0 p1 hst
              rw [show ((k - 1 : Nat) : Int) = (k : Int) - 1 from by omega] at hix'
              have hn2 : (xn ≤ 0) = False := by simpa using hn0
              have hk1 : (0 : Int) < k := by omega
              have dk1 : decide (0 < k) = true := by simp; omega
              have hwk : IntKind.i64.wrap ((k : Int) - 1) = (k : Int) - 1 := by rw [IntKind.wrap_i64]; omega
              have hA := kl_alloc wr (.cells #[.string xs, .int .i64 xn] 38)
              have q0 := kl_cell hA p0
              have hq := less_bl ps xs
              have HBAD := hide hbad
              have HST := hide hst
              clear hprev hr hBl hbad hnm hno hze hmo hwf hbk hst p0 p1 hA hn0
              generalize hd : decide (bl ps < bl xs) = d at *
              have HD := hide hd
              clear hd
              go_wp2_with fail
              generalize wr.alloc (.cells #[.string xs, .int .i64 xn] 38) = W at *
              generalize wr.heap.size = c at *
              have HS := hide (show ((W.cell? ⟨b', o', none⟩ = some (.string ps) ∧ W.cell? ⟨c, 0, none⟩ = some (.string xs) ∧ W.cell? ⟨c, 1, none⟩ = some (.int .i64 xn)) ∧ Below w.heap.size w W) from ⟨⟨q0, e0, e1⟩, hB1⟩)
              clear e0 e1 hB1 q0
              go_region_held3 (fun w' => (w'.cell? ⟨b', o', none⟩ = some (.string ps) ∧ w'.cell? ⟨c, 0, none⟩ = some (.string xs) ∧ w'.cell? ⟨c, 1, none⟩ = some (.int .i64 xn)) ∧ Below w.heap.size w w')
                (first
                  | assumption
                  | exact thr_step (kl_drew _) HS.out
                  | exact thr_step hb9 (by assumption)
                  | fail)
                (first
                  | (go_at_call 42; refine (hri _).mono ?_; rintro x w9 ⟨rfl, hb9⟩)
                  | fail)
              cases d with
              | false =>
                have HF := hide (HBAD.out HST.out)
                go_wp2
                go_ret
                exact ⟨ret_one (congrArg Value.bool HF.out.symm), two_below (by assumption)⟩
              | true =>
                have HN1 := hide (HN.out.more HST.out)
                go_wp2
                exact ⟨⟨k + 1, by omega, by go_num, HN1, two_below (by assumption)⟩, by simp [intOf]; omega⟩
      · obtain rfl : k = len := by omega
        have HD := hide (show rightE l = true from rightE_iff.2 ⟨by rw [HL.out]; omega, by rw [HL.out]; exact HN.out⟩)
        go_wp2
        go_ret
        exact ⟨ret_one (congrArg Value.bool HD.out.symm), hbk⟩
end Go.Proofs.Ytlfodhffecadoaa
