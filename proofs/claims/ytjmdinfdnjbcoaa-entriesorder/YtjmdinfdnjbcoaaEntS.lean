/-
  Entries: Add.
-/
import Derived.Test.YtjmdinfdnjbcoaaEntR
namespace Go.Proofs.Ytjmdinfdnjbcoaa
open Go.RowKit
set_option linter.unusedVariables false
set_option linter.unusedSimpArgs false
set_option maxRecDepth 100000

theorem add_step {b0 : Nat} {s : ByteArray} {w1 W W' : World} (hb : Below W.heap.size W W') (h : W.cell? ⟨b0, 0, none⟩ = some (.string s) ∧ Below w1.heap.size w1 W) : W'.cell? ⟨b0, 0, none⟩ = some (.string s) ∧ Below w1.heap.size w1 W' := ⟨kl_cell hb h.1, kl_step hb h.2⟩
theorem add_step2 {b0 : Nat} {s : ByteArray} {n : Int} {w1 W W' : World} (hb : Below W.heap.size W W') (h : (W.cell? ⟨b0, 0, none⟩ = some (.string s) ∧ W.cell? ⟨b0, 1, none⟩ = some (.int .i64 n)) ∧ Below w1.heap.size w1 W) :
    (W'.cell? ⟨b0, 0, none⟩ = some (.string s) ∧ W'.cell? ⟨b0, 1, none⟩ = some (.int .i64 n)) ∧ Below w1.heap.size w1 W' := ⟨⟨kl_cell hb h.1.1, kl_cell hb h.1.2⟩, kl_step hb h.2⟩

theorem add_step3 {b0 : Nat} {s : ByteArray} {n : Int} {w9 W W' : World} (hb : Below w9.heap.size W W') (hlt : b0 < w9.heap.size) (h : (W.cell? ⟨b0, 0, none⟩ = some (.string s) ∧ W.cell? ⟨b0, 1, none⟩ = some (.int .i64 n)) ∧ Below w9.heap.size w9 W) :
    (W'.cell? ⟨b0, 0, none⟩ = some (.string s) ∧ W'.cell? ⟨b0, 1, none⟩ = some (.int .i64 n)) ∧ Below w9.heap.size w9 W' := ⟨⟨(hb.cell (p := ⟨b0, 0, none⟩) hlt).trans h.1.1, (hb.cell (p := ⟨b0, 1, none⟩) hlt).trans h.1.2⟩, h.2.trans hb⟩
theorem ins_done {w w9 W w12 : World} {u u12 : Value} {l l' : List En} (ho : EOwn w9.heap.size W u l) (hB9 : Below w.heap.size w w9) (hW : Below w9.heap.size w9 W) (ho12 : EOwn w9.heap.size w12 u12 l') (hg : W.grownBy w12 u.ownBlock) :
    EOwn w.heap.size w12 u12 l' ∧ Below w.heap.size w w12 ∧ Below w9.heap.size W w12 := by
  have h1 : Below w9.heap.size W w12 := ho.grown_below (Below.refl _ _) hg (Nat.le_refl _) hW.size
  exact ⟨ho12.mono hB9.size, hB9.trans ((hW.trans h1).mono hB9.size), h1⟩
theorem own_ne {base : Nat} {w : World} {u : Value} {l : List En} (h : EOwn base w u l) {b : Nat} (hb : b < base ∨ w.heap.size ≤ b) : u.ownBlock ≠ some b := by
  intro e
  have := h.block b e
  omega

set_option maxHeartbeats 8000000 in
theorem Add_any (w : World) (v : Value) (l : List En) (s : ByteArray) (n : Int) (h : ERow w v l) (hz : l.length ≤ 1000000) (he : (⟨s, n⟩ : En).Wf) :
    Calls Try.prog 9 #[v, .agg #[.string s, .int .i64 n]] w fun e w' => ∃ u, e = .returned (.tuple #[u, .int .i64 (addS l ⟨s, n⟩).2]) ∧ EOwn w.heap.size w' u (addS l ⟨s, n⟩).1 ∧ Below w.heap.size w w' := by
  have hlr := h.lenRun
  obtain ⟨w0, hw0⟩ : ∃ W, W = w.alloc (.cells #[.string s, .int .i64 n] 24) := ⟨_, rfl⟩
  have hb0 : Below w.heap.size w w0 := by rw [hw0]; exact kl_alloc w _
  have hbl : Blk w0 w.heap.size #[.string s, .int .i64 n] 24 := by rw [hw0]; exact Blk.new w _ _
  have c0 : w0.cell? ⟨w.heap.size, 0, none⟩ = some (.string s) := hbl.cell 0
  have c1 : w0.cell? ⟨w.heap.size, 1, none⟩ = some (.int .i64 n) := hbl.cell 1
  have hri := Right_any w0 s he.s
  have HR0 := hide (h.below hb0)
  have HZ := hide hz
  have HE := hide he
  obtain ⟨len, hL⟩ : ∃ n, l.length = n := ⟨_, rfl⟩
  have HL := hide hL
  simp only [hL] at hlr
  rw [hL] at hz
  have HB0 := hide hb0
  have HC0 := hide c0
  have HC1 := hide c1
  clear hL h hb0 hbl he
  by_cases h1 : rightN (bl s) = false
  · rw [h1] at hri
    have HA := hide (show addS l ⟨s, n⟩ = ([], 17) by unfold addS; rw [if_pos h1])
    clear h1 c0 c1
    go_enter Try.func9, Try.ntmps9
    go_wp2_with fail
    rw [← hw0]
    refine hri.mono ?_
    rintro e1 w1 ⟨rfl, hb1⟩
    have c0 := kl_cell hb1 HC0.out
    have c1 := kl_cell hb1 HC1.out
    have HB1 := hide (kl_step hb1 HB0.out)
    have HR1 := hide (HR0.out.below hb1)
    clear hri hb1 hw0
    go_wp2
    go_ret2
    exact ⟨_, ret_two rfl (congrArg (Value.int .i64) (congrArg Prod.snd HA.out).symm), by rw [HA.out]; exact EOwn.nil _ _, HB1.out⟩
  · rw [Bool.not_eq_false] at h1
    rw [h1] at hri
    by_cases h2 : n ≤ 0
    · have HA := hide (show addS l ⟨s, n⟩ = ([], 1) by unfold addS; rw [if_neg (by simp [h1]), if_pos h2])
      clear h1 c0 c1
      go_enter Try.func9, Try.ntmps9
      go_wp2_with fail
      rw [← hw0]
      refine hri.mono ?_
      rintro e1 w1 ⟨rfl, hb1⟩
      have c0 := kl_cell hb1 HC0.out
      have c1 := kl_cell hb1 HC1.out
      have HB1 := hide (kl_step hb1 HB0.out)
      have HR1 := hide (HR0.out.below hb1)
      clear hri hb1 hw0
      go_wp2
      go_ret2
      exact ⟨_, ret_two rfl (congrArg (Value.int .i64) (congrArg Prod.snd HA.out).symm), by rw [HA.out]; exact EOwn.nil _ _, HB1.out⟩
    · cases h3 : atS l (bl s) with
      | some i =>
        have HA := hide (show addS l ⟨s, n⟩ = ([], 12) by unfold addS; rw [if_neg (by simp [h1]), if_neg h2, if_pos (by simp [h3])])
        have HAt := hide h3
        have h2' : (n ≤ 0) = False := by simpa using h2
        clear h1 h3 c0 c1
        go_enter Try.func9, Try.ntmps9
        go_wp2_with fail
        rw [← hw0]
        refine hri.mono ?_
        rintro e1 w1 ⟨rfl, hb1⟩
        have c0 := kl_cell hb1 HC0.out
        have c1 := kl_cell hb1 HC1.out
        have HB1 := hide (kl_step hb1 HB0.out)
        have HR1 := hide (HR0.out.below hb1)
        clear hri hb1 hw0
        go_wp2_with fail
        go_region_held3 (fun w' => w'.cell? ⟨w.heap.size, 0, none⟩ = some (.string s) ∧ Below w1.heap.size w1 w')
          (first
            | assumption
            | exact add_step (kl_drew _) ⟨c0, Below.refl _ _⟩
            | exact add_step hb9 (by assumption)
            | fail)
          (first
            | (go_at_call 21; refine (places_any _ v l (HR1.out.below (And.right (by assumption))) HZ.out).mono ?_; rintro e9 w9 ⟨rfl, ⟨n9, hM9⟩, hb9⟩; have hM8 : NMap w9 w1.heap.size n9 (atS l) := hM9; have hlk9 := hM8.look s HE.out.s; rw [HAt.out] at hlk9; simp only [Option.getD_none, Option.isSome_none, Option.getD_some, Option.isSome_some] at hlk9; clear hM9 hM8)
            | fail)
        have hX : w9.cell? ⟨w.heap.size, 0, none⟩ = some (.string s) ∧ Below w1.heap.size w1 w9 := by assumption
        have HB9 := hide (kl_step hX.2 HB1.out)
        clear hX hb9 c0 c1
        go_wp2
        go_ret2
        exact ⟨_, ret_two rfl (congrArg (Value.int .i64) (congrArg Prod.snd HA.out).symm), by rw [HA.out]; exact EOwn.nil _ _, HB9.out⟩
      | none =>
        by_cases h4 : 100 ≤ len
        · have HA := hide (show addS l ⟨s, n⟩ = ([], 21) by unfold addS; rw [if_neg (by simp [h1]), if_neg h2, if_neg (by simp [h3]), if_pos (by rw [HL.out]; exact h4)])
          have HAt := hide h3
          have h2' : (n ≤ 0) = False := by simpa using h2
          have h4' : (100 : Int) ≤ len := by omega
          clear h1 h3 h4 c0 c1
          go_enter Try.func9, Try.ntmps9
          go_wp2_with fail
          rw [← hw0]
          refine hri.mono ?_
          rintro e1 w1 ⟨rfl, hb1⟩
          have c0 := kl_cell hb1 HC0.out
          have c1 := kl_cell hb1 HC1.out
          have HB1 := hide (kl_step hb1 HB0.out)
          have HR1 := hide (HR0.out.below hb1)
          clear hri hb1 hw0
          go_wp2_with fail
          go_region_held3 (fun w' => w'.cell? ⟨w.heap.size, 0, none⟩ = some (.string s) ∧ Below w1.heap.size w1 w')
            (first
              | assumption
              | exact add_step (kl_drew _) ⟨c0, Below.refl _ _⟩
              | exact add_step hb9 (by assumption)
              | fail)
            (first
              | (go_at_call 21; refine (places_any _ v l (HR1.out.below (And.right (by assumption))) HZ.out).mono ?_; rintro e9 w9 ⟨rfl, ⟨n9, hM9⟩, hb9⟩; have hM8 : NMap w9 w1.heap.size n9 (atS l) := hM9; have hlk9 := hM8.look s HE.out.s; rw [HAt.out] at hlk9; simp only [Option.getD_none, Option.isSome_none, Option.getD_some, Option.isSome_some] at hlk9; clear hM9 hM8)
              | fail)
          have hX : w9.cell? ⟨w.heap.size, 0, none⟩ = some (.string s) ∧ Below w1.heap.size w1 w9 := by assumption
          have HB9 := hide (kl_step hX.2 HB1.out)
          clear hX hb9 c0 c1
          go_wp2
          go_ret2
          exact ⟨_, ret_two rfl (congrArg (Value.int .i64) (congrArg Prod.snd HA.out).symm), by rw [HA.out]; exact EOwn.nil _ _, HB9.out⟩
        · have HA := hide (show addS l ⟨s, n⟩ = (insS l (aboveS l (bl s)) ⟨s, n⟩, 0) by unfold addS; rw [if_neg (by simp [h1]), if_neg h2, if_neg (by simp [h3]), if_neg (by rw [HL.out]; exact h4)])
          have HAt := hide h3
          have h2' : (n ≤ 0) = False := by simpa using h2
          have h4' : ¬ (100 : Int) ≤ len := by omega
          generalize hk : aboveS l (bl s) = k at *
          have hkl : k ≤ l.length := by rw [← hk]; exact above_le _ _
          have HK := hide hkl
          have HK2 := hide hk
          rw [HL.out] at hkl
          clear h1 h3 h4 c0 c1 hk
          go_enter Try.func9, Try.ntmps9
          go_wp2_with fail
          rw [← hw0]
          refine hri.mono ?_
          rintro e1 w1 ⟨rfl, hb1⟩
          have c0 := kl_cell hb1 HC0.out
          have c1 := kl_cell hb1 HC1.out
          have HB1 := hide (kl_step hb1 HB0.out)
          have HR1 := hide (HR0.out.below hb1)
          clear hri hb1 hw0
          go_wp2_with fail
          go_region_held3 (fun w' => w'.cell? ⟨w.heap.size, 0, none⟩ = some (.string s) ∧ Below w1.heap.size w1 w')
            (first
              | assumption
              | exact add_step (kl_drew _) ⟨c0, Below.refl _ _⟩
              | exact add_step hb9 (by assumption)
              | fail)
            (first
              | (go_at_call 21; refine (places_any _ v l (HR1.out.below (And.right (by assumption))) HZ.out).mono ?_; rintro e9 w9 ⟨rfl, ⟨n9, hM9⟩, hb9⟩; have hM8 : NMap w9 w1.heap.size n9 (atS l) := hM9; have hlk9 := hM8.look s HE.out.s; rw [HAt.out] at hlk9; simp only [Option.getD_none, Option.isSome_none] at hlk9; clear hM9 hM8)
              | fail)
          have hX : w9.cell? ⟨w.heap.size, 0, none⟩ = some (.string s) ∧ Below w1.heap.size w1 w9 := by assumption
          have d0 := hX.1
          have d1 := kl_cell hX.2 c1
          have HB9 := hide (kl_step hX.2 HB1.out)
          have HR9 := hide (HR1.out.below hX.2)
          have hbx : w.heap.size < w9.heap.size := World.block_lt_of_cell? w9 _ d0
          clear hX hb9 hlk9 c0 c1
          go_wp2_with fail
          go_region_held3 (fun w' => (w'.cell? ⟨w.heap.size, 0, none⟩ = some (.string s) ∧ w'.cell? ⟨w.heap.size, 1, none⟩ = some (.int .i64 n)) ∧ Below w9.heap.size w9 w')
            (first
              | assumption
              | exact add_step2 (kl_drew _) ⟨⟨d0, d1⟩, Below.refl _ _⟩
              | exact add_step2 hb10 (by assumption)
              | exact add_step2 hb11 (by assumption)
              | exact add_step2 (kl_alloc _ _) (by assumption)
              | exact add_step3 hk12 hbx (by assumption)
              | fail)
            (first
              | (go_at_call 23; refine (CloneE_any _ v l (HR9.out.below (And.right (by assumption))) HZ.out).mono ?_; rintro e10 w10 ⟨u10, rfl, ho10, hb10⟩)
              | (go_at_call 24; refine (above_any _ v l (HR9.out.below (And.right (by assumption))) s).mono ?_; rw [HK2.out]; rintro e11 w11 ⟨rfl, hb11⟩)
              | (go_at_call 22
                 have hW := And.right (show _ ∧ Below w9.heap.size w9 _ by assumption)
                 have hI : EOwn w9.heap.size (w11.alloc (.cells #[.string s, .int .i64 n] 24)) u10 l := EOwn.alloc (EOwn.kept ho10 hb11) _
                 refine (Insert_any _ w9.heap.size u10 l ⟨s, n⟩ w11.heap.size k 24 hI hW.size HZ.out (Blk.new _ _ _) HE.out (own_ne (EOwn.kept ho10 hb11) (.inr (Nat.le_refl _))) HK.out).mono ?_
                 rintro e12 w12 ⟨u12, rfl, ho12, hg12⟩
                 obtain ⟨hf12, hb12, hk12⟩ := ins_done hI HB9.out hW ho12 hg12)
              | (go_at_call 22
                 have hW := And.right (show _ ∧ Below w9.heap.size w9 _ by assumption)
                 have hI : EOwn w9.heap.size w11 u10 l := EOwn.kept (EOwn.alloc ho10 _) hb11
                 refine (Insert_any _ w9.heap.size u10 l ⟨s, n⟩ w10.heap.size k 24 hI hW.size HZ.out ((Blk.new w10 _ _).below hb11 (Blk.new w10 _ _).lt) HE.out (own_ne ho10 (.inr (Nat.le_refl _))) HK.out).mono ?_
                 rintro e12 w12 ⟨u12, rfl, ho12, hg12⟩
                 obtain ⟨hf12, hb12, hk12⟩ := ins_done hI HB9.out hW ho12 hg12)
              | (go_at_call 22
                 have hW := And.right (show _ ∧ Below w9.heap.size w9 _ by assumption)
                 have hI : EOwn w9.heap.size w11 u10 l := EOwn.mono (EOwn.kept ho10 hb11) (by simp)
                 refine (Insert_any _ w9.heap.size u10 l ⟨s, n⟩ w9.heap.size k 24 hI hW.size HZ.out (((Blk.new w9.drew _ _).below hb10 (Blk.new w9.drew _ _).lt).below hb11 (Nat.lt_of_lt_of_le (Blk.new w9.drew _ _).lt hb10.size)) HE.out (own_ne ho10 (.inl (by simp))) HK.out).mono ?_
                 rintro e12 w12 ⟨u12, rfl, ho12, hg12⟩
                 obtain ⟨hf12, hb12, hk12⟩ := ins_done hI HB9.out hW ho12 hg12)
              | fail)
          all_goals
            have HF := hide hf12
            have HB12 := hide hb12
            clear hf12 hb12 hk12
            go_wp2
            go_ret2
            exact ⟨_, ret_two rfl (congrArg (Value.int .i64) (congrArg Prod.snd HA.out).symm), by rw [HA.out]; exact HF.out, HB12.out⟩
end Go.Proofs.Ytjmdinfdnjbcoaa
