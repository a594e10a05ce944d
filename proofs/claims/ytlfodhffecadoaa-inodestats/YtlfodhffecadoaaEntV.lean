/-
  Entries: the document's Add.
-/
import Derived.Test.YtlfodhffecadoaaEntFR
import Derived.Test.YtlfodhffecadoaaEntU
namespace Go.Proofs.Ytlfodhffecadoaa
open Go.RowKit
set_option linter.unusedVariables false
set_option linter.unusedSimpArgs false
set_option maxRecDepth 100000

theorem findS_there (l : List En) (s : List UInt8) : (findS l s).2 = (atS l s).isSome := by unfold findS; cases atS l s <;> rfl

set_option maxHeartbeats 8000000 in
theorem RAdd_any (w : World) (v : Value) (l : List En) (s : ByteArray) (n : Int) (h : ERow w v l) (hz : l.length ≤ 1000000) (he : (⟨s, n⟩ : En).Wf) :
    Calls Try.prog 16 #[v, .agg #[.string s, .int .i64 n]] w fun e w' => ∃ u, e = .returned (.tuple #[u, .int .i64 (addS l ⟨s, n⟩).2]) ∧ EOwn w.heap.size w' u (addS l ⟨s, n⟩).1 ∧ Below w.heap.size w w' := by
  have hlr := h.lenRun
  obtain ⟨w0, hw0⟩ : ∃ W, W = w.alloc (.cells #[.string s, .int .i64 n] 38) := ⟨_, rfl⟩
  have hb0 : Below w.heap.size w w0 := by rw [hw0]; exact kl_alloc w _
  have hbl : Blk w0 w.heap.size #[.string s, .int .i64 n] 38 := by rw [hw0]; exact Blk.new w _ _
  have c0 : w0.cell? ⟨w.heap.size, 0, none⟩ = some (.string s) := hbl.cell 0
  have c1 : w0.cell? ⟨w.heap.size, 1, none⟩ = some (.int .i64 n) := hbl.cell 1
  have hbx : w.heap.size < w0.heap.size := hbl.lt
  have hri := RRight_any w0 s he.s
  have hfi := RFind_any w0 v l (h.below hb0) s
  have hft := findS_there l (bl s)
  have HR0 := hide (h.below hb0)
  have HZ := hide hz
  have HE := hide he
  obtain ⟨len, hL⟩ : ∃ n, l.length = n := ⟨_, rfl⟩
  have HL := hide hL
  simp only [hL] at hlr
  rw [hL] at hz
  have HB0 := hide hb0
  clear hL h hb0 hbl he
  rw [hft] at hfi
  generalize (findS l (bl s)).1 = N0 at *
  clear hft
  cases h1 : rightN (bl s) with
  | false =>
    rw [h1] at hri
    have HA := hide (show addS l ⟨s, n⟩ = ([], 17) by unfold addS; rw [if_pos h1])
    clear h1
    generalize (atS l (bl s)).isSome = is at *
    go_enter Try.func16, Try.ntmps16
    go_wp2_with fail
    rw [← hw0]
    refine hfi.mono ?_
    rintro e1 w1 ⟨rfl, rfl⟩
    clear hfi hw0
    go_wp2_with fail
    refine hri.mono ?_
    rintro e1 w1 ⟨rfl, rfl⟩
    clear hri
    go_wp2
    go_ret2
    exact ⟨_, ret_two rfl (congrArg (Value.int .i64) (congrArg Prod.snd HA.out).symm), by rw [HA.out]; exact EOwn.nil _ _, HB0.out⟩
  | true =>
    rw [h1] at hri
    by_cases h2 : n ≤ 0
    · have HA := hide (show addS l ⟨s, n⟩ = ([], 1) by unfold addS; rw [if_neg (by simp [h1]), if_pos h2])
      have h2' : n < 1 := by omega
      clear h1 h2
      generalize (atS l (bl s)).isSome = is at *
      go_enter Try.func16, Try.ntmps16
      go_wp2_with fail
      rw [← hw0]
      refine hfi.mono ?_
      rintro e1 w1 ⟨rfl, rfl⟩
      clear hfi hw0
      go_wp2_with fail
      refine hri.mono ?_
      rintro e1 w1 ⟨rfl, rfl⟩
      clear hri
      go_wp2
      go_ret2
      exact ⟨_, ret_two rfl (congrArg (Value.int .i64) (congrArg Prod.snd HA.out).symm), by rw [HA.out]; exact EOwn.nil _ _, HB0.out⟩
    · cases h3 : atS l (bl s) with
      | some i =>
        have HA := hide (show addS l ⟨s, n⟩ = ([], 12) by unfold addS; rw [if_neg (by simp [h1]), if_neg h2, if_pos (by simp [h3])])
        have h2' : ¬ n < 1 := by omega
        rw [h3] at hfi
        simp only [Option.isSome_some] at hfi
        clear h1 h2 h3
        go_enter Try.func16, Try.ntmps16
        go_wp2_with fail
        rw [← hw0]
        refine hfi.mono ?_
        rintro e1 w1 ⟨rfl, rfl⟩
        clear hfi hw0
        go_wp2_with fail
        refine hri.mono ?_
        rintro e1 w1 ⟨rfl, rfl⟩
        clear hri
        go_wp2
        go_ret2
        exact ⟨_, ret_two rfl (congrArg (Value.int .i64) (congrArg Prod.snd HA.out).symm), by rw [HA.out]; exact EOwn.nil _ _, HB0.out⟩
      | none =>
        rw [h3] at hfi
        simp only [Option.isSome_none] at hfi
        by_cases h4 : 100 ≤ len
        · have HA := hide (show addS l ⟨s, n⟩ = ([], 21) by unfold addS; rw [if_neg (by simp [h1]), if_neg h2, if_neg (by simp [h3]), if_pos (by rw [HL.out]; exact h4)])
          have h2' : ¬ n < 1 := by omega
          have h4' : (100 : Int) ≤ len := by omega
          clear h1 h2 h3 h4
          go_enter Try.func16, Try.ntmps16
          go_wp2_with fail
          rw [← hw0]
          refine hfi.mono ?_
          rintro e1 w1 ⟨rfl, rfl⟩
          clear hfi hw0
          go_wp2_with fail
          refine hri.mono ?_
          rintro e1 w1 ⟨rfl, rfl⟩
          clear hri
          go_wp2
          go_ret2
          exact ⟨_, ret_two rfl (congrArg (Value.int .i64) (congrArg Prod.snd HA.out).symm), by rw [HA.out]; exact EOwn.nil _ _, HB0.out⟩
        · have HA := hide (show addS l ⟨s, n⟩ = (insS l (aboveS l (bl s)) ⟨s, n⟩, 0) by unfold addS; rw [if_neg (by simp [h1]), if_neg h2, if_neg (by simp [h3]), if_neg (by rw [HL.out]; exact h4)])
          have h2' : ¬ n < 1 := by omega
          have h4' : ¬ (100 : Int) ≤ len := by omega
          clear h1 h2 h3 h4
          go_enter Try.func16, Try.ntmps16
          go_wp2_with fail
          rw [← hw0]
          refine hfi.mono ?_
          rintro e1 w1 ⟨rfl, hw1⟩
          obtain rfl : w0 = w1 := hw1.symm
          clear hfi hw0
          go_wp2_with fail
          refine hri.mono ?_
          rintro e1 w1 ⟨rfl, hw1⟩
          obtain rfl : w0 = w1 := hw1.symm
          clear hri
          go_wp2
          go_loopw [8] (fun i wr => ∃ k : Nat, k ≤ len ∧ i = .int .i64 k ∧ Hid (∀ j, j < k → ¬ bl s < bl (l.getD j default).s) ∧ Below w0.heap.size w0 wr) (fun i _ => len - (intOf i).toNat)
          case atStart => exact ⟨0, Nat.zero_le _, rfl, hide (fun j hj => absurd hj (Nat.not_lt_zero _)), Below.refl _ _⟩
          case round =>
            obtain ⟨k, hk, rfl, HN, hbk⟩ := hrel
            have k0 := (hbk.cell (p := ⟨w.heap.size, 0, none⟩) hbx).trans c0
            have k1 := (hbk.cell (p := ⟨w.heap.size, 1, none⟩) hbx).trans c1
            by_cases hlt : k < len
            · have hlt' : (k : Int) < len := by omega
              have hkl : k < l.length := by rw [HL.out]; exact hlt
              obtain ⟨bb, o, hbs, hix, a0, a1⟩ := (HR0.out.below hbk).idx k hkl
              have hm := above_more HN.out (k := k)
              have hat : bl s < bl (l.getD k default).s → k < l.length → bl s < bl (l.getD k default).s := fun h _ => h
              have hq := leq_bl (l.getD k default).s s
              by_cases hd : bl s < bl (l.getD k default).s
              · rw [decide_eq_true hd] at hq
                have HAT := hide (hat hd)
                generalize (l.getD k default).s = xs at a0 hq
                clear hm hat hd a1
                go_wp2_with fail
                go_quiet (fail)
                have HKA := hide (above_is (l := l) (s := bl s) (k := k) (by rw [HL.out]; omega) HN.out HAT.out)
                have hbW := bel_drewN hbk nq
                have HR2 := hide (HR0.out.below hbW)
                have d0 := (hbW.cell (p := ⟨w.heap.size, 0, none⟩) hbx).trans c0
                have d1 := (hbW.cell (p := ⟨w.heap.size, 1, none⟩) hbx).trans c1
                have hltW : w.heap.size < (wr.drewN nq).heap.size := Nat.lt_of_lt_of_le hbx hbW.size
                have HBW := hide (kl_step hbW HB0.out)
                generalize wr.drewN nq = W at *
                obtain ⟨v1, hs1, hr1⟩ := HR2.out.upto k (by rw [HL.out]; omega)
                obtain ⟨v2, hs2, hr2⟩ := HR2.out.from k (by rw [HL.out]; omega)
                have HR1 := hide hr1
                have HR3 := hide hr2
                have HF1 := hide (show ([] : List En).length + (l.take k).length ≤ 1000000000000 by simp; omega)
                have HF2 := hide (show (l.take k).length + [(⟨s, n⟩ : En)].length ≤ 1000000000000 by simp; omega)
                have HF3 := hide (show (l.take k ++ [(⟨s, n⟩ : En)]).length + (l.drop k).length ≤ 1000000000000 by have := HL.out; simp; omega)
                clear hr1 hr2 hbk hbW k0 k1 a0 hix hbs hq c0 c1
                go_wp2_with fail
                go_region_held3 (fun w' => (w'.cell? ⟨w.heap.size, 0, none⟩ = some (.string s) ∧ w'.cell? ⟨w.heap.size, 1, none⟩ = some (.int .i64 n)) ∧ Below W.heap.size W w')
                  (first
                    | assumption
                    | exact add_step2 (kl_drew _) ⟨⟨d0, d1⟩, Below.refl _ _⟩
                    | exact add_step3 hb12 hltW (by assumption)
                    | exact add_step3 hb11 hltW (by assumption)
                    | exact add_step2 (kl_alloc _ _) (by assumption)
                    | fail)
                  (first
                    | (refine step_append_ents (by rfl) _ _ (by rfl) W.heap.size (.slice none 0 0) v1 [] (l.take k) (by rfl) (EOwn.nil _ _) (by rfl) (HR1.out.below (And.right (by assumption))) HF1.out (Below.size (And.right (by assumption))) ?_
                       intro u11 w11 ho11 hg11
                       have hb11 := Below.grown (Below.refl W.heap.size _) hg11 (Below.size (And.right (show _ ∧ Below W.heap.size W _ by assumption))) (fun k e => by cases e))
                    | (have hS := And.right (show _ ∧ Below W.heap.size W _ by assumption)
                       have hI := EOwn.alloc ho11 (.cells #[.string s, .int .i64 n] 38)
                       refine step_append_ents (by rfl) _ _ (by rfl) W.heap.size u11 (.slice (some ⟨w11.heap.size, 0, none⟩) 1 1) (l.take k) [⟨s, n⟩] (by rfl) hI (by rfl) (one_row (e := ⟨s, n⟩) (Blk.new w11 _ _) HE.out) HF2.out hS.size ?_
                       intro u12 w12 ho12 hg12
                       have hb12 := hI.grown_below (Below.refl W.heap.size _) hg12 (Nat.le_refl _) hS.size)
                    | (have hS := And.right (show _ ∧ Below W.heap.size W _ by assumption)
                       refine step_append_ents (by rfl) _ _ (by rfl) W.heap.size u11 (.slice (some ⟨W.heap.size, 0, none⟩) 1 1) (l.take k) [⟨s, n⟩] (by rfl) ho11 (by rfl) (one_row (e := ⟨s, n⟩) ((Blk.new W.drew _ _).kept hg11 (by simp [Value.ownBlock])) HE.out) HF2.out hS.size ?_
                       intro u12 w12 ho12 hg12
                       have hb12 := ho11.grown_below (Below.refl W.heap.size _) hg12 (Nat.le_refl _) hS.size)
                    | fail)
                all_goals
                  have hS := And.right (show _ ∧ Below W.heap.size W w12 by assumption)
                  have HO := hide ho12
                  have HB := hide (show Below W.heap.size W w12 from hS)
                  have hsz := hS.size
                  clear hb12 hb11 hS ho11 ho12
                  go_wp2_with (at_builtin; refine wpList_append_ents rfl _ _ rfl W.heap.size u12 v2 _ (l.drop k) rfl HO.out rfl (HR3.out.below HB.out) HF3.out hsz ?_)
                  intro u13 w13 ho13 hg13
                  have HO13 := hide (ho13.mono HBW.out.size)
                  have HB13 := hide (kl_step (HO.out.grown_below HB.out hg13 (Nat.le_refl _) hsz) HBW.out)
                  clear ho13 hg13
                  go_wp2
                  go_ret2
                  refine ⟨_, ret_two rfl (congrArg (Value.int .i64) (congrArg Prod.snd HA.out).symm), ?_, HB13.out⟩
                  rw [HA.out, HKA.out]
                  have hh := HO13.out
                  exact hh
              · rw [decide_eq_false hd] at hq
                have HY := hide (hm hd)
                generalize (l.getD k default).s = xs at a0 hq
                clear hm hat hd a1
                go_wp2_with fail
                go_quiet (fail)
                go_wp2
                exact ⟨⟨k + 1, by omega, by go_num, HY, bel_drewN hbk nq⟩, by simp [intOf]; omega⟩
            · obtain rfl : k = len := by omega
              go_wp2_with fail
              go_quiet (fail)
              have HKA := hide (above_is (l := l) (s := bl s) (k := k) (by rw [HL.out]; omega) HN.out (fun h => by rw [HL.out] at h; omega))
              have hbW := bel_drewN hbk nq
              have HR2 := hide (HR0.out.below hbW)
              have d0 := (hbW.cell (p := ⟨w.heap.size, 0, none⟩) hbx).trans c0
              have d1 := (hbW.cell (p := ⟨w.heap.size, 1, none⟩) hbx).trans c1
              have hltW : w.heap.size < (wr.drewN nq).heap.size := Nat.lt_of_lt_of_le hbx hbW.size
              have HBW := hide (kl_step hbW HB0.out)
              generalize wr.drewN nq = W at *
              obtain ⟨v1, hs1, hr1⟩ := HR2.out.upto k (by rw [HL.out]; omega)
              obtain ⟨v2, hs2, hr2⟩ := HR2.out.from k (by rw [HL.out]; omega)
              have HR1 := hide hr1
              have HR3 := hide hr2
              have HF1 := hide (show ([] : List En).length + (l.take k).length ≤ 1000000000000 by simp; omega)
              have HF2 := hide (show (l.take k).length + [(⟨s, n⟩ : En)].length ≤ 1000000000000 by simp; omega)
              have HF3 := hide (show (l.take k ++ [(⟨s, n⟩ : En)]).length + (l.drop k).length ≤ 1000000000000 by have := HL.out; simp; omega)
              clear hr1 hr2 hbk hbW k0 k1 c0 c1
              go_wp2_with fail
              go_region_held3 (fun w' => (w'.cell? ⟨w.heap.size, 0, none⟩ = some (.string s) ∧ w'.cell? ⟨w.heap.size, 1, none⟩ = some (.int .i64 n)) ∧ Below W.heap.size W w')
                (first
                  | assumption
                  | exact add_step2 (kl_drew _) ⟨⟨d0, d1⟩, Below.refl _ _⟩
                  | exact add_step3 hb12 hltW (by assumption)
                  | exact add_step3 hb11 hltW (by assumption)
                  | exact add_step2 (kl_alloc _ _) (by assumption)
                  | fail)
                (first
                  | (refine step_append_ents (by rfl) _ _ (by rfl) W.heap.size (.slice none 0 0) v1 [] (l.take k) (by rfl) (EOwn.nil _ _) (by rfl) (HR1.out.below (And.right (by assumption))) HF1.out (Below.size (And.right (by assumption))) ?_
                     intro u11 w11 ho11 hg11
                     have hb11 := Below.grown (Below.refl W.heap.size _) hg11 (Below.size (And.right (show _ ∧ Below W.heap.size W _ by assumption))) (fun k e => by cases e))
                  | (have hS := And.right (show _ ∧ Below W.heap.size W _ by assumption)
                     have hI := EOwn.alloc ho11 (.cells #[.string s, .int .i64 n] 38)
                     refine step_append_ents (by rfl) _ _ (by rfl) W.heap.size u11 (.slice (some ⟨w11.heap.size, 0, none⟩) 1 1) (l.take k) [⟨s, n⟩] (by rfl) hI (by rfl) (one_row (e := ⟨s, n⟩) (Blk.new w11 _ _) HE.out) HF2.out hS.size ?_
                     intro u12 w12 ho12 hg12
                     have hb12 := hI.grown_below (Below.refl W.heap.size _) hg12 (Nat.le_refl _) hS.size)
                  | (have hS := And.right (show _ ∧ Below W.heap.size W _ by assumption)
                     refine step_append_ents (by rfl) _ _ (by rfl) W.heap.size u11 (.slice (some ⟨W.heap.size, 0, none⟩) 1 1) (l.take k) [⟨s, n⟩] (by rfl) ho11 (by rfl) (one_row (e := ⟨s, n⟩) ((Blk.new W.drew _ _).kept hg11 (by simp [Value.ownBlock])) HE.out) HF2.out hS.size ?_
                     intro u12 w12 ho12 hg12
                     have hb12 := ho11.grown_below (Below.refl W.heap.size _) hg12 (Nat.le_refl _) hS.size)
                  | fail)
              all_goals
                have hS := And.right (show _ ∧ Below W.heap.size W w12 by assumption)
                have HO := hide ho12
                have HB := hide (show Below W.heap.size W w12 from hS)
                have hsz := hS.size
                clear hb12 hb11 hS ho11 ho12
                go_wp2_with (at_builtin; refine wpList_append_ents rfl _ _ rfl W.heap.size u12 v2 _ (l.drop k) rfl HO.out rfl (HR3.out.below HB.out) HF3.out hsz ?_)
                intro u13 w13 ho13 hg13
                have HO13 := hide (ho13.mono HBW.out.size)
                have HB13 := hide (kl_step (HO.out.grown_below HB.out hg13 (Nat.le_refl _) hsz) HBW.out)
                clear ho13 hg13
                go_wp2
                go_ret2
                refine ⟨_, ret_two rfl (congrArg (Value.int .i64) (congrArg Prod.snd HA.out).symm), ?_, HB13.out⟩
                rw [HA.out, HKA.out]
                have hh := HO13.out
                exact hh
end Go.Proofs.Ytlfodhffecadoaa
