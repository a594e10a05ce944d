/-
  What a program that does nothing does not answer: garretlaw05.awake.
-/
import Derived.Test.YthiehpofmlbehaaKeep5
namespace Go.Proofs.Ythiehpofmlbehaa
open Go.RowKit
set_option linter.unusedVariables false
set_option maxRecDepth 100000

theorem progD_order {S : PSt} {N : DSt} {n i k : Nat} {d s : List Int} (ok : N.Ok n) (hi : i < N.C) (hk : k < N.D) (hd : d.length = N.E) (hs : s.length = 16) (hx : ¬ (k : Int) = N.nx.getD i 0) : progD S N i k d s = (8, S, N) := by
  have h0 : isP N i k = true := by simp [isP]; omega
  unfold progD
  rw [h0, decide_eq_true hd, decide_eq_true hs, Int.toNat_natCast, if_neg hx]
  rfl
theorem progD_done {S S' : PSt} {N : DSt} {n i k : Nat} {d s : List Int} (ok : N.Ok n) (hi : i < N.C) (hk : k < N.D) (hd : d.length = N.E) (hs : s.length = 16) (hx : (k : Int) = N.nx.getD i 0) (hst : S.step = (true, false, S')) (hf : S'.failed = false) : progD S N i k d s = (0, S', N.put i k (d ++ s)) := by
  have h0 : isP N i k = true := by simp [isP]; omega
  unfold progD
  rw [h0, decide_eq_true hd, decide_eq_true hs, Int.toNat_natCast, Int.toNat_natCast, if_pos hx, hst]
  simp [hf]
theorem row_zero (w : World) (n : Nat) (hn : n ≤ 1000000) : Row (w.alloc (.cells (bv (List.replicate n 0)).toArray 5)) (.slice (some ⟨w.heap.size, 0, none⟩) n n) (List.replicate n 0) :=
  (own_block (n := n) (base := 0) (Blk.new w _ _) (Nat.zero_le _) (by simp) hn (fun x hx => by simp at hx; omega)).row

set_option maxHeartbeats 2000000 in
theorem awake5_any (w : World) : Calls Try.prog 5 #[] w fun e w' => e = .returned (.bool true) ∧ Below w.heap.size w w' := by
  go_enter Try.func5, Try.ntmps5
  go_wp2_with fail
  refine (small5_any _).mono ?_
  rintro e w1 ⟨A, B, C, D, E, rfl, hr, hq, hB1⟩
  have HQ := hide hq
  clear hq
  go_wp2_with fail
  refine (New_any _).mono ?_
  rintro e w2 ⟨rfl, hw2⟩
  have HW2 := hide hw2
  clear hw2
  go_wp2_with fail
  have hu := rightS_of hr
  refine (NewNand_right w2 A B C D E _ (wf_i64 (by omega) (by omega)) hr).mono ?_
  rintro e w3 ⟨k, mb, nb, eb, rfl, hmade⟩
  have hK := hmade.kept hB1 HW2.out hr
  have ok := DSt.new_ok hr 0
  have hNC : (DSt.new A B C D E).C = C ∧ (DSt.new A B C D E).D = D ∧ (DSt.new A B C D E).E = E ∧ (DSt.new A B C D E).nx.getD 0 0 = 0 := ⟨rfl, rfl, rfl, by show (List.replicate C (0 : Int)).getD 0 0 = 0; exact getD_rep _ _ _ (by omega)⟩
  clear HW2 hmade hB1 hr
  generalize hL : (⟨k, w1.heap.size, none, mb, nb, eb⟩ : DLay) = L at *
  obtain rfl : k = L.c := by rw [← hL]
  have hmb := hK.dev.chip.pgs.choose_spec.1.lt
  have hlt := hK.dev.chip.lt
  clear hL
  generalize hbase : w3.heap.size = base at *
  generalize DSt.new A B C D E = N at *
  obtain ⟨rfl, rfl, hE, hnx0⟩ := hNC
  have hE16 : N.E = 16 := by have := HQ.out; omega
  have hC0 := ok.C0
  have hD0 := ok.D0
  obtain ⟨Z, hZ⟩ : ∃ Z, Z = List.replicate 16 (0 : Int) := ⟨_, rfl⟩
  have hZl : Z.length = 16 := by rw [hZ]; exact List.length_replicate
  have hZb : Bys Z := by rw [hZ]; intro x hx; rw [(List.mem_replicate.1 hx).2]; omega
  have hmk : ∀ w : World, (Instr.makeSlice 43 (.int .i64 16) (.int .i64 16)).run Try.prog w = .ok (.slice (some ⟨w.heap.size, 0, none⟩) 16 16) (w.alloc (.cells (bv Z).toArray 5)) := fun w => hZ ▸ run_make_bytes5 w 16 (by omega)
  have hrz : ∀ w : World, Row (w.alloc (.cells (bv Z).toArray 5)) (.slice (some ⟨w.heap.size, 0, none⟩) 16 16) Z := fun w => hZ ▸ row_zero w 16 (by omega)
  clear hZ
  have hZZ : (Z ++ Z).length = N.E + 16 := by rw [List.length_append, hZl, hE16]
  have p1 : progD PSt.zero N 0 1 Z Z = (8, PSt.zero, N) := progD_order (i := 0) (k := 1) ok (by omega) (by omega) (by rw [hZl, hE16]) hZl (by rw [hnx0]; decide)
  have p2 : progD PSt.zero N 0 0 Z Z = (0, ⟨false, false, 0, 0, 1, []⟩, N.put 0 0 (Z ++ Z)) := progD_done (i := 0) (k := 0) ok (by omega) (by omega) (by rw [hZl, hE16]) hZl (by rw [hnx0]; rfl) rfl rfl
  have p3 : nextD (N.put 0 0 (Z ++ Z)) 0 = 1 := by
    unfold nextD
    rw [if_pos (by simp [isB]; show 0 < N.C; omega)]
    show (N.nx.set 0 (N.nx.getD 0 0 + 1)).getD 0 0 = 1
    rw [getD_set_same _ _ _ (by rw [ok.nl]; omega), hnx0]
    rfl
  have ok2 : (N.put 0 0 (Z ++ Z)).Ok 0 := ok.put (by omega) (by omega) (by rw [hnx0]; rfl) hZZ (hZb.app hZb)
  have HP1 := hide p1
  have HP2 := hide p2
  have HP3 := hide p3
  clear p1 p2 p3 hu hE hnx0 hE16 hZl hZZ HQ
  -- both rows, and the chip
  generalize hO : Obj.cells (bv Z).toArray 5 = OZ at *
  have hr1 : Row ((w3.alloc OZ).alloc OZ).drew (.slice (some ⟨base, 0, none⟩) 16 16) Z := by
    have := ((hrz w3).below (w' := (w3.alloc OZ).alloc OZ) ((Below.refl _ _).alloc (Nat.le_refl _) _)).below (w' := ((w3.alloc OZ).alloc OZ).drew) (Below.refl _ _).drew
    rwa [hbase] at this
  have hr2 : Row ((w3.alloc OZ).alloc OZ).drew (.slice (some ⟨base + 1, 0, none⟩) 16 16) Z := by
    have := (hrz (w3.alloc OZ)).below (w' := ((w3.alloc OZ).alloc OZ).drew) (Below.refl _ _).drew
    rwa [World.size_alloc, hbase] at this
  have hK2 := ((hK.alloc OZ).alloc OZ).still (only_drew5 _)
  have hgo : ∀ (d s : Value), Row ((w3.alloc OZ).alloc OZ).drew d Z → Row ((w3.alloc OZ).alloc OZ).drew s Z →
      (∀ g off n cap, d = .slice (some ⟨g, off, none⟩) n cap → g ≠ L.pb) → (∀ g off n cap, s = .slice (some ⟨g, off, none⟩) n cap → g ≠ L.pb) → _ := fun d s h1 h2 h3 h4 => Program5_any base _ L PSt.zero N 0 0 hK2.dev (PSt.zero_ok5 0) ok (by omega) (by omega) hK2.size 0 1 (by decide) (by decide) d s _ _ h1 h2 (fun _ => h3) (fun _ => h4)
  have hgo2 : ∀ (d s : Value) (W : World), KeptD w base W L PSt.zero N 1 → Row W d Z → Row W s Z →
      (∀ g off n cap, d = .slice (some ⟨g, off, none⟩) n cap → g ≠ L.pb) → (∀ g off n cap, s = .slice (some ⟨g, off, none⟩) n cap → g ≠ L.pb) → _ := fun d s W hW h1 h2 h3 h4 => Program5_any base W L PSt.zero N 1 0 hW.dev (PSt.zero_ok5 0) ok (by omega) (by omega) hW.size 0 0 (by decide) (by decide) d s _ _ h1 h2 (fun _ => h3) (fun _ => h4)
  simp only [HP1.out] at hgo
  simp only [HP2.out] at hgo2
  have HG := hide hgo
  have HG2 := hide hgo2
  have HK2 := hide hK2
  have HR1 := hide hr1
  have HR2 := hide hr2
  clear hgo hgo2 hK hK2 hr1 hr2 ok hrz
  go_wp2_with fail
  go_region
  all_goals
    go_wp2_with fail
    refine (HG.out _ _ (by first | exact HR1.out | exact HR2.out) (by first | exact HR2.out | exact HR1.out) (by intro g off n cap e; cases e; omega) (by intro g off n cap e; cases e; omega)).mono ?_
    rintro e w4 ⟨rfl, hD4, hO4⟩
    have hK4 := HK2.out.turn hD4 (hO4.wide (by simp))
    have hR1 := HR1.out.only hO4 (by intro b off n cap e; cases e; simp; omega)
    have hR2 := HR2.out.only hO4 (by intro b off n cap e; cases e; simp; omega)
    have HR1' := hide hR1
    have HR2' := hide hR2
    have HK4 := hide hK4
    clear hK4 hR1 hR2 hD4 hO4
    go_wp2_with fail
    refine (HG2.out _ _ w4 HK4.out (by first | exact HR1'.out | exact HR2'.out) (by first | exact HR2'.out | exact HR1'.out) (by intro g off n cap e; cases e; omega) (by intro g off n cap e; cases e; omega)).mono ?_
    rintro e w5 ⟨rfl, hD5, hO5⟩
    have hK5 := HK4.out.turn hD5 (hO5.wide (by simp))
    have hpr := Programmed_any base w5 L _ _ 0 hK5.dev.chip ok2 0 (by decide)
    rw [HP3.out] at hpr
    have hB := hK5.below
    clear hK5 hD5 hO5 ok2
    go_wp2_with fail
    refine hpr.mono ?_
    rintro e w6 ⟨rfl, rfl⟩
    go_wp2
    go_ret
    exact ⟨rfl, hB⟩
end Go.Proofs.Ythiehpofmlbehaa
