/-
  The contracts of package runs: Right.
-/
import Derived.Test.YtlfodhffecadoaaRunsA
import Derived.Test.YtlfodhffecadoaaHoldL
import Derived.Test.YtlfodhffecadoaaAnyH
namespace Go.Proofs.Ytlfodhffecadoaa
open Go.RowKit
set_option linter.unusedVariables false
set_option maxRecDepth 100000

/-- Six cells that are read, and all that is old, as they were. -/
def Six (b o c : Nat) (r p : Rn) (w0 w' : World) : Prop :=
  ((w'.cell? ⟨b, o, none⟩ = some (.int .i64 p.f) ∧ w'.cell? ⟨b, o + 1, none⟩ = some (.int .i64 p.a) ∧ w'.cell? ⟨b, o + 2, none⟩ = some (.int .i64 p.n)) ∧
   (w'.cell? ⟨c, 0, none⟩ = some (.int .i64 r.f) ∧ w'.cell? ⟨c, 1, none⟩ = some (.int .i64 r.a) ∧ w'.cell? ⟨c, 2, none⟩ = some (.int .i64 r.n))) ∧ Below w0.heap.size w0 w'
theorem Six.step {b o c : Nat} {r p : Rn} {w0 w w' : World} (hb : Below w.heap.size w w') (h : Six b o c r p w0 w) : Six b o c r p w0 w' := by
  obtain ⟨⟨⟨h0, h1, h2⟩, h3, h4, h5⟩, h6⟩ := h
  exact ⟨⟨⟨kl_cell hb h0, kl_cell hb h1, kl_cell hb h2⟩, kl_cell hb h3, kl_cell hb h4, kl_cell hb h5⟩, h6.trans (hb.mono h6.size)⟩
theorem Six.below {b o c : Nat} {r p : Rn} {w0 w : World} (h : Six b o c r p w0 w) : Below w0.heap.size w0 w := h.2

theorem three_step {c : Nat} {x y z : Value} {w0 w w' : World} (hb : Below w.heap.size w w') (h : (w.cell? ⟨c, 0, none⟩ = some x ∧ w.cell? ⟨c, 1, none⟩ = some y ∧ w.cell? ⟨c, 2, none⟩ = some z) ∧ Below w0.heap.size w0 w) :
    (w'.cell? ⟨c, 0, none⟩ = some x ∧ w'.cell? ⟨c, 1, none⟩ = some y ∧ w'.cell? ⟨c, 2, none⟩ = some z) ∧ Below w0.heap.size w0 w' :=
  ⟨⟨kl_cell hb h.1.1, kl_cell hb h.1.2.1, kl_cell hb h.1.2.2⟩, h.2.trans (hb.mono h.2.size)⟩
theorem three_below {w0 w : World} {A : Prop} (h : A ∧ Below w0.heap.size w0 w) : Below w0.heap.size w0 w := h.2

set_option maxHeartbeats 4000000 in
theorem RightR_any (w : World) (v : Value) (l : List Rn) (h : RRow w v l) : Calls Try.prog 36 #[v] w (SaysB (rightS l) w) := by
  have hlr := h.lenRun
  have hlm := h.len
  unfold maxLen at hlm
  have HR := hide h
  clear h
  obtain ⟨len, hL⟩ : ∃ n, l.length = n := ⟨_, rfl⟩
  have HL := hide hL
  rw [hL] at hlm
  simp only [hL] at hlr
  clear hL
  go_enter Try.func36, Try.ntmps36
  go_wp2
  go_loopw [7] (fun i wr => ∃ k : Nat, k ≤ len ∧ i = .int .i64 k ∧ rightS (l.take k) = true ∧ Below w.heap.size w wr) (fun i _ => len - (intOf i).toNat)
  case atStart => exact ⟨0, Nat.zero_le _, rfl, by simp [rightS, chainS], Below.refl _ _⟩
  case round =>
    obtain ⟨k, hk, rfl, hrt, hbk⟩ := hrel
    by_cases hlt : k < len
    · have hlt' : (k : Int) < len := by omega
      have hkl : k < l.length := by rw [HL.out]; exact hlt
      obtain ⟨b, o, hbs, hix, c0, c1, c2⟩ := (HR.out.below hbk).idx k hkl
      have hmore := right_more hkl hrt
      have hwf := HR.out.2 _ (getD_mem hkl)
      have hprev : 0 < k → withinS (l.getD (k - 1) default) = true := fun h0 => within_at hrt (by omega) (by omega)
      have hix2 := fun (h0 : 0 < k) => (HR.out.below hbk).idx (k - 1) (by omega)
      generalize hr : l.getD k default = r at *
      obtain ⟨f, a, n⟩ := r
      simp only at c0 c1 c2
      have hin := fun w => isWithin_any w f a n hwf
      have HM := hide hmore
      have HT := hide hrt
      have HB := hide hbk
      clear hmore hrt hbk hr
      have hBl := Blk.new wr #[.int .i64 f, .int .i64 a, .int .i64 n] 40
      have hB1 : Below w.heap.size w (wr.alloc (.cells #[.int .i64 f, .int .i64 a, .int .i64 n] 40)) := HB.out.alloc HB.out.size _
      have e0 : (wr.alloc (.cells #[.int .i64 f, .int .i64 a, .int .i64 n] 40)).cell? ⟨wr.heap.size, 0, none⟩ = some (.int .i64 f) := hBl.cell 0
      have e1 : (wr.alloc (.cells #[.int .i64 f, .int .i64 a, .int .i64 n] 40)).cell? ⟨wr.heap.size, 1, none⟩ = some (.int .i64 a) := hBl.cell 1
      have e2 : (wr.alloc (.cells #[.int .i64 f, .int .i64 a, .int .i64 n] 40)).cell? ⟨wr.heap.size, 2, none⟩ = some (.int .i64 n) := hBl.cell 2
      cases hw : withinS ⟨f, a, n⟩ with
      | false =>
        rw [hw] at hin
        have HF := hide (right_false (k + 1) (HM.out.trans (by rw [hw]; rfl)))
        clear hprev hix2 hw hBl
        go_wp2_with fail
        generalize wr.alloc (.cells #[.int .i64 f, .int .i64 a, .int .i64 n] 40) = W at *
        generalize wr.heap.size = c at *
        have HS := hide (show ((W.cell? ⟨c, 0, none⟩ = some (.int .i64 f) ∧ W.cell? ⟨c, 1, none⟩ = some (.int .i64 a) ∧ W.cell? ⟨c, 2, none⟩ = some (.int .i64 n)) ∧ Below w.heap.size w W) from ⟨⟨e0, e1, e2⟩, hB1⟩)
        clear e0 e1 e2 hB1
        refine wp_region_held_drew (S := fun w' => (w'.cell? ⟨c, 0, none⟩ = some (.int .i64 f) ∧ w'.cell? ⟨c, 1, none⟩ = some (.int .i64 a) ∧ w'.cell? ⟨c, 2, none⟩ = some (.int .i64 n)) ∧ Below w.heap.size w w') (by kernel_rfl) (three_step (kl_drew _) HS.out) (fun hHeld => ?_)
        refine any_yes 0 (.agg #[.int .i64 f, .int .i64 a, .int .i64 n]) rfl (by kernel_rfl) (by kernel_rfl) (by kernel_rfl) (fun _ _ _ h => h) (by rfl) (by intro w hSw; obtain ⟨⟨g0, g1, g2⟩, g3⟩ := hSw; go_simp) (by assumption) ?_
        try simp only [Act.put, List.setIfInBounds_toArray, List.set_cons_zero, List.set_cons_succ]
        refine any_one 1 (by kernel_rfl) rfl (by rfl) (fun K' hK => ?_)
        go_simp
        refine (hin _).mono ?_
        rintro x w9 ⟨rfl, hb9⟩
        go_simp
        refine hK.out _ _ (three_step hb9 hHeld) (fun hHeld2 => ?_)
        clear hK K'
        try simp only [Act.put, List.setIfInBounds_toArray, List.set_cons_zero, List.set_cons_succ]
        refine any_yes 2 (.bool true) rfl (by kernel_rfl) (by kernel_rfl) (by kernel_rfl) (fun _ _ _ h => h) (by rfl) (by intro w hSw; obtain ⟨⟨g0, g1, g2⟩, g3⟩ := hSw; go_simp) (by assumption) ?_
        try simp only [Act.put, List.setIfInBounds_toArray, List.set_cons_zero, List.set_cons_succ]
        refine any_yes 3 (.bool true) rfl (by kernel_rfl) (by kernel_rfl) (by kernel_rfl) (fun _ _ _ h => h) (by rfl) (by intro w hSw; obtain ⟨⟨g0, g1, g2⟩, g3⟩ := hSw; go_simp) (by assumption) ?_
        try simp only [Act.put, List.setIfInBounds_toArray, List.set_cons_zero, List.set_cons_succ]
        refine any_no 4 rfl (by kernel_rfl) (by kernel_rfl) (by kernel_rfl) (fun _ _ _ h => h) (by rfl) (by assumption) ?_
        try simp only [Act.put, List.setIfInBounds_toArray, List.set_cons_zero, List.set_cons_succ]
        refine any_no 5 rfl (by kernel_rfl) (by kernel_rfl) (by kernel_rfl) (fun _ _ _ h => h) (by rfl) (by assumption) ?_
        try simp only [Act.put, List.setIfInBounds_toArray, List.set_cons_zero, List.set_cons_succ]
        refine any_no 6 rfl (by kernel_rfl) (by kernel_rfl) (by kernel_rfl) (fun _ _ _ h => h) (by rfl) (by assumption) ?_
        try simp only [Act.put, List.setIfInBounds_toArray, List.set_cons_zero, List.set_cons_succ]
        refine any_no 7 rfl (by kernel_rfl) (by kernel_rfl) (by kernel_rfl) (fun _ _ _ h => h) (by rfl) (by assumption) ?_
        try simp only [Act.put, List.setIfInBounds_toArray, List.set_cons_zero, List.set_cons_succ]
        refine any_no 8 rfl (by kernel_rfl) (by kernel_rfl) (by kernel_rfl) (fun _ _ _ h => h) (by rfl) (by assumption) ?_
        try simp only [Act.put, List.setIfInBounds_toArray, List.set_cons_zero, List.set_cons_succ]
        refine any_no 9 rfl (by kernel_rfl) (by kernel_rfl) (by kernel_rfl) (fun _ _ _ h => h) (by rfl) (by assumption) ?_
        try simp only [Act.put, List.setIfInBounds_toArray, List.set_cons_zero, List.set_cons_succ]
        refine any_no 10 rfl (by kernel_rfl) (by kernel_rfl) (by kernel_rfl) (fun _ _ _ h => h) (by rfl) (by assumption) ?_
        try simp only [Act.put, List.setIfInBounds_toArray, List.set_cons_zero, List.set_cons_succ]
        refine any_no 11 rfl (by kernel_rfl) (by kernel_rfl) (by kernel_rfl) (fun _ _ _ h => h) (by rfl) (by assumption) ?_
        try simp only [Act.put, List.setIfInBounds_toArray, List.set_cons_zero, List.set_cons_succ]
        refine any_no 12 rfl (by kernel_rfl) (by kernel_rfl) (by kernel_rfl) (fun _ _ _ h => h) (by rfl) (by assumption) ?_
        try simp only [Act.put, List.setIfInBounds_toArray, List.set_cons_zero, List.set_cons_succ]
        refine any_no 13 rfl (by kernel_rfl) (by kernel_rfl) (by kernel_rfl) (fun _ _ _ h => h) (by rfl) (by assumption) ?_
        try simp only [Act.put, List.setIfInBounds_toArray, List.set_cons_zero, List.set_cons_succ]
        refine any_no 14 rfl (by kernel_rfl) (by kernel_rfl) (by kernel_rfl) (fun _ _ _ h => h) (by rfl) (by assumption) ?_
        try simp only [Act.put, List.setIfInBounds_toArray, List.set_cons_zero, List.set_cons_succ]
        refine any_no 15 rfl (by kernel_rfl) (by kernel_rfl) (by kernel_rfl) (fun _ _ _ h => h) (by rfl) (by assumption) ?_
        try simp only [Act.put, List.setIfInBounds_toArray, List.set_cons_zero, List.set_cons_succ]
        refine any_yes 16 (.bool true) rfl (by kernel_rfl) (by kernel_rfl) (by kernel_rfl) (fun _ _ _ h => h) (by rfl) (by intro w hSw; obtain ⟨⟨g0, g1, g2⟩, g3⟩ := hSw; go_simp) (by assumption) ?_
        try simp only [Act.put, List.setIfInBounds_toArray, List.set_cons_zero, List.set_cons_succ]
        refine wpAnyH_done (by kernel_rfl) ?_ _
        go_wp2
        go_ret
        exact ⟨ret_one (congrArg Value.bool HF.out.symm), three_below hHeld2⟩
      | true =>
        rw [hw] at hin
        by_cases hk0 : k = 0
        · subst hk0
          have hix0 : ∀ w', (Instr.indexAt 23 v (.int .i64 0)).run Try.prog w' = .ok (.pointer (some ⟨b, o, none⟩)) w' := hix
          have HT1 := hide (show rightS (l.take 1) = true from HM.out.trans (by rw [hw]; rfl))
          clear hprev hix2 hw hBl
          go_wp2_with fail
          generalize wr.alloc (.cells #[.int .i64 f, .int .i64 a, .int .i64 n] 40) = W at *
          generalize wr.heap.size = c at *
          have HS := hide (show ((W.cell? ⟨c, 0, none⟩ = some (.int .i64 f) ∧ W.cell? ⟨c, 1, none⟩ = some (.int .i64 a) ∧ W.cell? ⟨c, 2, none⟩ = some (.int .i64 n)) ∧ Below w.heap.size w W) from ⟨⟨e0, e1, e2⟩, hB1⟩)
          clear e0 e1 e2 hB1
          refine wp_region_held_drew (S := fun w' => (w'.cell? ⟨c, 0, none⟩ = some (.int .i64 f) ∧ w'.cell? ⟨c, 1, none⟩ = some (.int .i64 a) ∧ w'.cell? ⟨c, 2, none⟩ = some (.int .i64 n)) ∧ Below w.heap.size w w') (by kernel_rfl) (three_step (kl_drew _) HS.out) (fun hHeld => ?_)
          refine any_yes 0 (.agg #[.int .i64 f, .int .i64 a, .int .i64 n]) rfl (by kernel_rfl) (by kernel_rfl) (by kernel_rfl) (fun _ _ _ h => h) (by rfl) (by intro w hSw; obtain ⟨⟨g0, g1, g2⟩, g3⟩ := hSw; go_simp) (by assumption) ?_
          try simp only [Act.put, List.setIfInBounds_toArray, List.set_cons_zero, List.set_cons_succ]
          refine any_one 1 (by kernel_rfl) rfl (by rfl) (fun K' hK => ?_)
          go_simp
          refine (hin _).mono ?_
          rintro x w9 ⟨rfl, hb9⟩
          go_simp
          refine hK.out _ _ (three_step hb9 hHeld) (fun hHeld2 => ?_)
          clear hK K'
          try simp only [Act.put, List.setIfInBounds_toArray, List.set_cons_zero, List.set_cons_succ]
          refine any_yes 2 (.bool false) rfl (by kernel_rfl) (by kernel_rfl) (by kernel_rfl) (fun _ _ _ h => h) (by rfl) (by intro w hSw; obtain ⟨⟨g0, g1, g2⟩, g3⟩ := hSw; go_simp) (by assumption) ?_
          try simp only [Act.put, List.setIfInBounds_toArray, List.set_cons_zero, List.set_cons_succ]
          refine any_yes 3 (.bool false) rfl (by kernel_rfl) (by kernel_rfl) (by kernel_rfl) (fun _ _ _ h => h) (by rfl) (by intro w hSw; obtain ⟨⟨g0, g1, g2⟩, g3⟩ := hSw; go_simp) (by assumption) ?_
          try simp only [Act.put, List.setIfInBounds_toArray, List.set_cons_zero, List.set_cons_succ]
          refine any_yes 4 (.int .i64 0) rfl (by kernel_rfl) (by kernel_rfl) (by kernel_rfl) (fun _ _ _ h => h) (by rfl) (by intro w hSw; obtain ⟨⟨g0, g1, g2⟩, g3⟩ := hSw; go_simp) (by assumption) ?_
          try simp only [Act.put, List.setIfInBounds_toArray, List.set_cons_zero, List.set_cons_succ]
          refine any_yes 5 (.bool false) rfl (by kernel_rfl) (by kernel_rfl) (by kernel_rfl) (fun _ _ _ h => h) (by rfl) (by intro w hSw; obtain ⟨⟨g0, g1, g2⟩, g3⟩ := hSw; go_simp) (by assumption) ?_
          try simp only [Act.put, List.setIfInBounds_toArray, List.set_cons_zero, List.set_cons_succ]
          refine any_yes 6 (.bool false) rfl (by kernel_rfl) (by kernel_rfl) (by kernel_rfl) (fun _ _ _ h => h) (by rfl) (by intro w hSw; obtain ⟨⟨g0, g1, g2⟩, g3⟩ := hSw; go_simp) (by assumption) ?_
          try simp only [Act.put, List.setIfInBounds_toArray, List.set_cons_zero, List.set_cons_succ]
          refine any_no 7 rfl (by kernel_rfl) (by kernel_rfl) (by kernel_rfl) (fun _ _ _ h => h) (by rfl) (by assumption) ?_
          try simp only [Act.put, List.setIfInBounds_toArray, List.set_cons_zero, List.set_cons_succ]
          refine any_no 8 rfl (by kernel_rfl) (by kernel_rfl) (by kernel_rfl) (fun _ _ _ h => h) (by rfl) (by assumption) ?_
          try simp only [Act.put, List.setIfInBounds_toArray, List.set_cons_zero, List.set_cons_succ]
          refine any_no 9 rfl (by kernel_rfl) (by kernel_rfl) (by kernel_rfl) (fun _ _ _ h => h) (by rfl) (by assumption) ?_
          try simp only [Act.put, List.setIfInBounds_toArray, List.set_cons_zero, List.set_cons_succ]
          refine any_no 10 rfl (by kernel_rfl) (by kernel_rfl) (by kernel_rfl) (fun _ _ _ h => h) (by rfl) (by assumption) ?_
          try simp only [Act.put, List.setIfInBounds_toArray, List.set_cons_zero, List.set_cons_succ]
          refine any_no 11 rfl (by kernel_rfl) (by kernel_rfl) (by kernel_rfl) (fun _ _ _ h => h) (by rfl) (by assumption) ?_
          try simp only [Act.put, List.setIfInBounds_toArray, List.set_cons_zero, List.set_cons_succ]
          refine any_no 12 rfl (by kernel_rfl) (by kernel_rfl) (by kernel_rfl) (fun _ _ _ h => h) (by rfl) (by assumption) ?_
          try simp only [Act.put, List.setIfInBounds_toArray, List.set_cons_zero, List.set_cons_succ]
          refine any_no 13 rfl (by kernel_rfl) (by kernel_rfl) (by kernel_rfl) (fun _ _ _ h => h) (by rfl) (by assumption) ?_
          try simp only [Act.put, List.setIfInBounds_toArray, List.set_cons_zero, List.set_cons_succ]
          refine any_no 14 rfl (by kernel_rfl) (by kernel_rfl) (by kernel_rfl) (fun _ _ _ h => h) (by rfl) (by assumption) ?_
          try simp only [Act.put, List.setIfInBounds_toArray, List.set_cons_zero, List.set_cons_succ]
          refine any_yes 15 (.bool false) rfl (by kernel_rfl) (by kernel_rfl) (by kernel_rfl) (fun _ _ _ h => h) (by rfl) (by intro w hSw; obtain ⟨⟨g0, g1, g2⟩, g3⟩ := hSw; go_simp) (by assumption) ?_
          try simp only [Act.put, List.setIfInBounds_toArray, List.set_cons_zero, List.set_cons_succ]
          refine any_yes 16 (.bool false) rfl (by kernel_rfl) (by kernel_rfl) (by kernel_rfl) (fun _ _ _ h => h) (by rfl) (by intro w hSw; obtain ⟨⟨g0, g1, g2⟩, g3⟩ := hSw; go_simp) (by assumption) ?_
          try simp only [Act.put, List.setIfInBounds_toArray, List.set_cons_zero, List.set_cons_succ]
          refine wpAnyH_done (by kernel_rfl) ?_ _
          go_wp2
          exact ⟨⟨1, by omega, by go_num, HT1.out, three_below hHeld2⟩, by simp [intOf]; omega⟩
        · obtain ⟨b', o', hbs', hix', p0, p1, p2⟩ := hix2 (by omega)
          have hpw := hprev (by omega)
          generalize hp : l.getD (k - 1) default = p at *
          obtain ⟨pf, pa, pn⟩ := p
          simp only at p0 p1 p2
          rw [show ((k - 1 : Nat) : Int) = (k : Int) - 1 from by omega] at hix'
          have hbe := fun w => isBehind_any w pf pa pn f a n (Rn.mild_of _ hpw)
          have hk1 : (0 : Int) < k := by omega
          have dk1 : decide (0 < k) = true := by simp; omega
          have hwk : IntKind.i64.wrap ((k : Int) - 1) = (k : Int) - 1 := in64 _ (by omega)
          have hbl' : b' < wr.heap.size := hbs'
          have hA := kl_alloc wr (.cells #[.int .i64 f, .int .i64 a, .int .i64 n] 40)
          have q0 := kl_cell hA p0
          have q1 := kl_cell hA p1
          have q2 := kl_cell hA p2
          rw [if_neg (show ¬ k = 0 from hk0), hw, Bool.true_and] at HM
          clear hprev hix2 hw hBl hpw hp p0 p1 p2 hA hbl'
          generalize hbh : behindS ⟨pf, pa, pn⟩ ⟨f, a, n⟩ = bh at *
          clear hbh
          go_wp2_with fail
          generalize wr.alloc (.cells #[.int .i64 f, .int .i64 a, .int .i64 n] 40) = W at *
          generalize wr.heap.size = c at *
          have HS : Hid (Six b' o' c ⟨f, a, n⟩ ⟨pf, pa, pn⟩ w W) := hide ⟨⟨⟨q0, q1, q2⟩, e0, e1, e2⟩, hB1⟩
          clear e0 e1 e2 hB1 q0 q1 q2
          go_region_held3 (fun w' => ((w'.cell? ⟨b', o', none⟩ = some (.int .i64 pf) ∧ w'.cell? ⟨b', o' + 1, none⟩ = some (.int .i64 pa) ∧ w'.cell? ⟨b', o' + 2, none⟩ = some (.int .i64 pn)) ∧
   (w'.cell? ⟨c, 0, none⟩ = some (.int .i64 f) ∧ w'.cell? ⟨c, 1, none⟩ = some (.int .i64 a) ∧ w'.cell? ⟨c, 2, none⟩ = some (.int .i64 n))) ∧ Below w.heap.size w w')
            (first
              | assumption
              | exact Six.step (kl_drew _) HS.out
              | exact Six.step hb9 (show Six b' o' c ⟨f, a, n⟩ ⟨pf, pa, pn⟩ w _ by assumption)
              | fail)
            (first
              | (go_at_call 40; refine (hin _).mono ?_; rintro x w9 ⟨rfl, hb9⟩)
              | (go_at_call 41; refine (hbe _).mono ?_; rintro x w9 ⟨rfl, hb9⟩)
              | fail)
          cases bh with
          | false =>
            have HF := hide (right_false (k + 1) HM.out)
            go_wp2
            go_ret
            exact ⟨ret_one (congrArg Value.bool HF.out.symm), three_below (by assumption)⟩
          | true =>
            go_wp2
            exact ⟨⟨k + 1, by omega, by go_num, HM.out, three_below (by assumption)⟩, by simp [intOf]; omega⟩
    · obtain rfl : k = len := by omega
      have hd : rightS l = true := by rw [List.take_of_length_le (by rw [HL.out]; exact Nat.le_refl _)] at hrt; exact hrt
      have HD := hide hd
      clear hd hrt
      go_wp2
      go_ret
      exact ⟨ret_one (congrArg Value.bool HD.out.symm), hbk⟩
end Go.Proofs.Ytlfodhffecadoaa
