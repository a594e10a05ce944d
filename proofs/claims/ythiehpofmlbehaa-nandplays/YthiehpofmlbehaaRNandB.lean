/-
  The document's own chip of pages: NewNand.
-/
import Derived.Test.YthiehpofmlbehaaRNandA
namespace Go.Proofs.Ythiehpofmlbehaa
open Go.RowKit
set_option linter.unusedVariables false
set_option maxRecDepth 100000

theorem R_fin {w Wc : World} {A B : Int} {C D E T k g1 g2 g3 pb : Nat} (hT : C * D * (E + 16) = T) (hT0 : 0 < T) (hTm : T ≤ 557056) (b1 : Blk Wc g1 (bv (List.replicate T 255)).toArray 5) (n1 : Blk Wc g2 (iv .i64 (List.replicate C 0)).toArray 3) (n2 : Blk Wc g3 (iv .i64 (List.replicate C 0)).toArray 3) (hk : Wc.heap.size = k) (hb : Below w.heap.size w Wc) (hpb : pb < w.heap.size)
    (hl : w.heap.size ≤ g1 ∧ w.heap.size ≤ g2 ∧ w.heap.size ≤ g3) (hne : g1 ≠ g2 ∧ g1 ≠ g3 ∧ g2 ≠ g3) :
    RChip (Wc.alloc (.cells #[.int .i64 A, .int .i64 B, .int .i64 C, .int .i64 D, .int .i64 E, .pointer (some ⟨pb, 0, none⟩), .slice (some ⟨g1, 0, none⟩) T T, .slice (some ⟨g2, 0, none⟩) C C, .slice (some ⟨g3, 0, none⟩) C C] 50)) ⟨k, pb, g1, T, g2, g3⟩ (DSt.new A B C D E) ∧ pb = pb ∧ (w.heap.size ≤ k ∧ w.heap.size ≤ g1 ∧ w.heap.size ≤ g2 ∧ w.heap.size ≤ g3) ∧ Below w.heap.size w (Wc.alloc (.cells #[.int .i64 A, .int .i64 B, .int .i64 C, .int .i64 D, .int .i64 E, .pointer (some ⟨pb, 0, none⟩), .slice (some ⟨g1, 0, none⟩) T T, .slice (some ⟨g2, 0, none⟩) C C, .slice (some ⟨g3, 0, none⟩) C C] 50)) := by
  have hc := Blk.new Wc #[.int .i64 A, .int .i64 B, .int .i64 C, .int .i64 D, .int .i64 E, .pointer (some ⟨pb, 0, none⟩), .slice (some ⟨g1, 0, none⟩) T T, .slice (some ⟨g2, 0, none⟩) C C, .slice (some ⟨g3, 0, none⟩) C C] 50
  rw [hk] at hc
  have hlen : (DSt.new A B C D E).bs.length = T := by simp [DSt.new, hT]
  have l1 := b1.lt
  have l2 := n1.lt
  have l3 := n2.lt
  have hs := hb.size
  have hO : Only [] Wc (Wc.alloc (.cells #[.int .i64 A, .int .i64 B, .int .i64 C, .int .i64 D, .int .i64 E, .pointer (some ⟨pb, 0, none⟩), .slice (some ⟨g1, 0, none⟩) T T, .slice (some ⟨g2, 0, none⟩) C C, .slice (some ⟨g3, 0, none⟩) C C] 50)) := only_grown (World.grownBy_alloc _ _ none) (by simp)
  refine ⟨⟨by rw [rdcells, hlen]; exact hc, ?_, n1.only hO (by simp), n2.only hO (by simp), by simp only; omega⟩, rfl, by omega, hb.alloc hs _⟩
  have he : (DSt.new A B C D E).bs = List.replicate T 255 := by simp [DSt.new, hT]
  rw [hlen, he]
  exact own_block (b1.only hO (by simp)) (Nat.zero_le _) (by simp) (by omega) (fun x hx => by simp at hx; omega)

set_option maxHeartbeats 4000000 in
theorem RNewNand_right (w : World) (A B : Int) (C D E : Nat) (pb : Nat) (hpb : pb < w.heap.size) (hA : (Lit.int .i64 A).wf = true) (hr : rightS A B C D E = true) :
    Calls Try.prog 9 #[.agg (gcells A B C D E), .pointer (some ⟨pb, 0, none⟩)] w fun x w' =>
      ∃ M : RLy, x = .returned (.tuple #[.pointer (some ⟨M.c, 0, none⟩), .int .i64 0]) ∧ RChip w' M (DSt.new A B C D E) ∧ M.pb = pb ∧ (w.heap.size ≤ M.c ∧ w.heap.size ≤ M.bb ∧ w.heap.size ≤ M.nb ∧ w.heap.size ≤ M.eb) ∧ Below w.heap.size w w' := by
  have hu := rightS_of hr
  have hri := fun w => RRight_any w A B C D E hA
  rw [hr] at hri
  have hC : C ≤ 64 ∧ 4 ≤ C := by omega
  have hD : D ≤ 32 := by omega
  have hE : E ≤ 256 := by omega
  have m2 := fun w => run_make_ints5 w C (by omega)
  have hCD : C * D ≤ 2048 := Nat.mul_le_mul hC.1 hD
  have hT : C * D * (E + 16) ≤ 557056 := Nat.mul_le_mul hCD (show E + 16 ≤ 272 by omega)
  have e1 : ((C : Int) * (D : Int)) = ((C * D : Nat) : Int) := by simp
  have e2 : ((C * D : Nat) : Int) * ((E : Int) + 16) = ((C * D * (E + 16) : Nat) : Int) := by simp
  have hbl := fun w => blank5_any w (C * D * (E + 16)) (by omega)
  have hT0 : 0 < C * D * (E + 16) := Nat.mul_pos (Nat.mul_pos (by omega) (by omega)) (by omega)
  clear hu
  have hG : HoldG5 w.heap.size A B C D E ((w.alloc (.cells (gcells A B C D E) 23)).alloc (.cells (gcells A B C D E) 23)) := holdG5_alloc _ (holdG5_of (Blk.new w _ _))
  unfold gcells at hri hG ⊢
  generalize hLT : C * D * (E + 16) = T at *
  generalize hLQ : C * D = Q at *
  have HLT := hide (show C * D * (E + 16) = T by rw [hLQ]; exact hLT)
  have w1 : IntKind.i64.wrap ((C : Int) * (D : Int)) = (Q : Int) := by rw [e1]; exact i64_in _ (by omega)
  have w2 : IntKind.i64.wrap ((E : Int) + 16) = (E : Int) + 16 := i64_in _ (by omega)
  have w3 : IntKind.i64.wrap ((Q : Int) * ((E : Int) + 16)) = (T : Int) := by rw [e2]; exact i64_in _ (by omega)
  clear hLT hLQ e1 e2
  go_enter Try.func9, Try.ntmps9
  go_wp2_with fail
  refine (hri _).mono ?_
  rintro e w1 ⟨rfl, rfl⟩
  have hsz : ((w.alloc (.cells #[.int .i64 A, .int .i64 B, .int .i64 C, .int .i64 D, .int .i64 E] 23)).alloc (.cells #[.int .i64 A, .int .i64 B, .int .i64 C, .int .i64 D, .int .i64 E] 23)).heap.size = w.heap.size + 2 := by simp
  have hbel : Below w.heap.size w ((w.alloc (.cells #[.int .i64 A, .int .i64 B, .int .i64 C, .int .i64 D, .int .i64 E] 23)).alloc (.cells #[.int .i64 A, .int .i64 B, .int .i64 C, .int .i64 D, .int .i64 E] 23)) := ((Below.refl _ _).alloc (Nat.le_refl _) _).alloc (by simp) _
  go_wp2_with fail
  generalize (w.alloc (.cells #[.int .i64 A, .int .i64 B, .int .i64 C, .int .i64 D, .int .i64 E] 23)).alloc (.cells #[.int .i64 A, .int .i64 B, .int .i64 C, .int .i64 D, .int .i64 E] 23) = W at *
  have HSZ := hide hsz
  clear hsz
  go_region_held3 (fun w' => (w'.cell? ⟨w.heap.size, 0, none⟩ = some (.int .i64 A) ∧ w'.cell? ⟨w.heap.size, 1, none⟩ = some (.int .i64 B) ∧ w'.cell? ⟨w.heap.size, 2, none⟩ = some (.int .i64 C) ∧ w'.cell? ⟨w.heap.size, 3, none⟩ = some (.int .i64 D) ∧ w'.cell? ⟨w.heap.size, 4, none⟩ = some (.int .i64 E)) ∧ Blk w' w.heap.size #[.int .i64 A, .int .i64 B, .int .i64 C, .int .i64 D, .int .i64 E] 23)
    (first
      | assumption
      | exact holdG5_drew (by assumption)
      | exact holdG5_below hS16.2.1 (by assumption)
      | exact holdG5_alloc _ (by assumption)
      | fail)
    (first
      | (go_at_call 36; refine (hbl _).mono ?_; rintro e w16 ⟨rfl, hS16⟩)
      | fail)
  all_goals
    have hsW := HSZ.out
    have hDr : Below W.heap.size W W.drew := (Below.refl _ _).drew
    have hWs : W.drew.heap.size = W.heap.size := rfl
    go_wp2
    go_ret2
    first
      | (have hs : Step1 W.drew w16 (bv (List.replicate T 255)).toArray 5 := hS16
         obtain ⟨q1, q2, q3⟩ := hs
         have a1 := Step1.alloc w16 (iv .i64 (List.replicate C 0)).toArray 3
         have a2 := Step1.alloc (w16.alloc (.cells (iv .i64 (List.replicate C 0)).toArray 3)) (iv .i64 (List.replicate C 0)).toArray 3
         have z1 : (w16.alloc (.cells (iv .i64 (List.replicate C 0)).toArray 3)).heap.size = w16.heap.size + 1 := by simp
         have p1 := (q1.below a1.2.1 (by omega)).below a2.2.1 (by omega)
         have p2 := a1.1.below a2.2.1 (by omega)
         have p3 := a2.1
         have z2 : ((w16.alloc (.cells (iv .i64 (List.replicate C 0)).toArray 3)).alloc (.cells (iv .i64 (List.replicate C 0)).toArray 3)).heap.size = w16.heap.size + 1 + 1 := by simp
         rw [z1] at p3
         have hbc : Below w.heap.size w ((w16.alloc (.cells (iv .i64 (List.replicate C 0)).toArray 3)).alloc (.cells (iv .i64 (List.replicate C 0)).toArray 3)) := ((hbel.trans ((hDr.trans q2).mono (by omega))).trans (a1.2.1.mono (by omega))).trans (a2.2.1.mono (by omega))
         first
           | exact ⟨⟨_, pb, _, _, _, _⟩, rfl, R_fin HLT.out hT0 hT p1 p2 p3 z2 hbc hpb (by omega) (by omega)⟩
           | exact ⟨⟨_, pb, _, _, _, _⟩, rfl, R_fin HLT.out hT0 hT p1 p3 p2 z2 hbc hpb (by omega) (by omega)⟩)
      | (have hs : Step1 (W.drew.alloc (.cells (iv .i64 (List.replicate C 0)).toArray 3)) w16 (bv (List.replicate T 255)).toArray 5 := hS16
         obtain ⟨q1, q2, q3⟩ := hs
         have a0 := Step1.alloc W.drew (iv .i64 (List.replicate C 0)).toArray 3
         have a2 := Step1.alloc w16 (iv .i64 (List.replicate C 0)).toArray 3
         have z0 : (W.drew.alloc (.cells (iv .i64 (List.replicate C 0)).toArray 3)).heap.size = W.heap.size + 1 := by simp
         rw [z0] at q1 q3
         have p1 := q1.below a2.2.1 (by omega)
         have p2 := (a0.1.below q2 (by omega)).below a2.2.1 (by omega)
         have p3 := a2.1
         have z2 : (w16.alloc (.cells (iv .i64 (List.replicate C 0)).toArray 3)).heap.size = w16.heap.size + 1 := by simp
         have hbc : Below w.heap.size w (w16.alloc (.cells (iv .i64 (List.replicate C 0)).toArray 3)) := ((hbel.trans ((hDr.trans a0.2.1).mono (by omega))).trans (q2.mono (by omega))).trans (a2.2.1.mono (by omega))
         first
           | exact ⟨⟨_, pb, _, _, _, _⟩, rfl, R_fin HLT.out hT0 hT p1 p2 p3 z2 hbc hpb (by omega) (by omega)⟩
           | exact ⟨⟨_, pb, _, _, _, _⟩, rfl, R_fin HLT.out hT0 hT p1 p3 p2 z2 hbc hpb (by omega) (by omega)⟩)
      | (have hs : Step1 ((W.drew.alloc (.cells (iv .i64 (List.replicate C 0)).toArray 3)).alloc (.cells (iv .i64 (List.replicate C 0)).toArray 3)) w16 (bv (List.replicate T 255)).toArray 5 := hS16
         obtain ⟨q1, q2, q3⟩ := hs
         have a0 := Step1.alloc W.drew (iv .i64 (List.replicate C 0)).toArray 3
         have a1 := Step1.alloc (W.drew.alloc (.cells (iv .i64 (List.replicate C 0)).toArray 3)) (iv .i64 (List.replicate C 0)).toArray 3
         have z0 : (W.drew.alloc (.cells (iv .i64 (List.replicate C 0)).toArray 3)).heap.size = W.heap.size + 1 := by simp
         have z1 : ((W.drew.alloc (.cells (iv .i64 (List.replicate C 0)).toArray 3)).alloc (.cells (iv .i64 (List.replicate C 0)).toArray 3)).heap.size = W.heap.size + 1 + 1 := by simp
         rw [z1] at q1 q3
         have p1 := q1
         have p2 := (a0.1.below a1.2.1 (by omega)).below q2 (by omega)
         have p3 := a1.1.below q2 (by omega)
         rw [z0] at p3
         have hbc : Below w.heap.size w w16 := ((hbel.trans ((hDr.trans a0.2.1).mono (by omega))).trans (a1.2.1.mono (by omega))).trans (q2.mono (by omega))
         first
           | exact ⟨⟨_, pb, _, _, _, _⟩, rfl, R_fin HLT.out hT0 hT p1 p2 p3 rfl hbc hpb (by omega) (by omega)⟩
           | exact ⟨⟨_, pb, _, _, _, _⟩, rfl, R_fin HLT.out hT0 hT p1 p3 p2 rfl hbc hpb (by omega) (by omega)⟩)
end Go.Proofs.Ythiehpofmlbehaa
