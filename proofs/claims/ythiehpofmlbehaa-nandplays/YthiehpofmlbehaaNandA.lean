/-
  The contracts of package nand: what its chip is, and its smaller methods.
-/
import Derived.Test.YthiehpofmlbehaaNandP
namespace Go.Proofs.Ythiehpofmlbehaa
open Go.RowKit
set_option linter.unusedVariables false
set_option maxRecDepth 100000

structure DLay where
  c : Nat
  pb : Nat
  mo : Option Nat
  mb : Nat
  nb : Nat
  eb : Nat
def dcells (N : DSt) (L : DLay) : Array Value :=
  #[.int .i64 N.A, .int .i64 N.B, .int .i64 N.C, .int .i64 N.D, .int .i64 N.E, .pointer (some ⟨L.pb, 0, none⟩), .map (some L.mb), .slice (some ⟨L.nb, 0, none⟩) N.C N.C, .slice (some ⟨L.eb, 0, none⟩) N.C N.C]
/-- A page that is there lies in a block of its own; one that is not is erased. -/
structure Pages (base : Nat) (w : World) (L : DLay) (N : DSt) (f : Nat → Nat → Option Value) : Prop where
  own : ∀ i k v, i < N.C → k < N.D → f i k = some v → ∃ g cap, v = .slice (some ⟨g, 0, none⟩) (N.E + 16) cap ∧ Own base w v (N.pg i k) ∧ (g ≠ L.mb ∧ L.mo ≠ some g) ∧ (k : Int) < N.nx.getD i 0
  non : ∀ i k, i < N.C → k < N.D → f i k = none → N.pg i k = List.replicate (N.E + 16) 255
  inj : ∀ i k i' k' g n cap n' cap', i < N.C → k < N.D → i' < N.C → k' < N.D → f i k = some (.slice (some ⟨g, 0, none⟩) n cap) → f i' k' = some (.slice (some ⟨g, 0, none⟩) n' cap') → i = i' ∧ k = k'
structure NChip (base : Nat) (w : World) (L : DLay) (N : DSt) (m : Nat) : Prop where
  blk : Blk w L.c (dcells N L) 68
  nxt : Blk w L.nb (iv .i64 N.nx).toArray 3
  ers : Blk w L.eb (iv .i64 N.er).toArray 3
  pgs : ∃ f, PgMap w L.mb m f ∧ Pages base w L N f
  lt : L.c < base ∧ L.pb < base ∧ L.nb < base ∧ L.eb < base
  ne : (L.c ≠ L.pb ∧ L.c ≠ L.nb ∧ L.c ≠ L.eb ∧ L.pb ≠ L.nb ∧ L.pb ≠ L.eb ∧ L.nb ≠ L.eb) ∧ (L.mb ≠ L.c ∧ L.mb ≠ L.pb ∧ L.mb ≠ L.nb ∧ L.mb ≠ L.eb)
/-- A chip with its power. -/
structure NDev (base : Nat) (w : World) (L : DLay) (S : PSt) (N : DSt) (m : Nat) : Prop where
  pow : PowE w L.pb L.mo S
  chip : NChip base w L N m
  mo : ∀ k, L.mo = some k → k ≠ L.c ∧ k ≠ L.pb ∧ k ≠ L.mb ∧ k ≠ L.nb ∧ k ≠ L.eb

section
variable {base m : Nat} {w w' : World} {L : DLay} {S S' : PSt} {N : DSt}
theorem Pages.only {l : List Nat} {f : Nat → Nat → Option Value} (h : Pages base w L N f) (hg : Only l w w') (hl : ∀ k ∈ l, k < base ∨ k = L.mb ∨ L.mo = some k ∨ w.heap.size ≤ k) : Pages base w' L N f := by
  refine ⟨fun i k v hi hk hf => ?_, h.non, h.inj⟩
  obtain ⟨g, cap, rfl, ho, hn, hx⟩ := h.own i k v hi hk hf
  have hb := ho.block g rfl
  refine ⟨g, cap, rfl, ho.only hg (fun j hj hm => ?_), hn, hx⟩
  cases hj
  rcases hl g hm with h1 | h1 | h1 | h1
  · omega
  · exact hn.1 h1
  · exact hn.2 h1
  · omega
theorem NChip.only {l : List Nat} (h : NChip base w L N m) (hg : Only l w w') (hl : ∀ k ∈ l, (k ≠ L.c ∧ k ≠ L.mb ∧ k ≠ L.nb ∧ k ≠ L.eb) ∧ (k < base ∨ L.mo = some k ∨ w.heap.size ≤ k)) : NChip base w' L N m := by
  obtain ⟨f, h1, h2⟩ := h.pgs
  refine ⟨h.blk.only hg (fun e => (hl _ e).1.1 rfl), h.nxt.only hg (fun e => (hl _ e).1.2.2.1 rfl), h.ers.only hg (fun e => (hl _ e).1.2.2.2 rfl), ⟨f, h1.only hg (fun e => (hl _ e).1.2.1 rfl), h2.only hg (fun k hk => ?_)⟩, h.lt, h.ne⟩
  rcases (hl k hk).2 with h3 | h3 | h3
  · exact .inl h3
  · exact .inr (.inr (.inl h3))
  · exact .inr (.inr (.inr h3))
theorem NDev.still (h : NDev base w L S N m) (hg : Only [] w w') : NDev base w' L S N m :=
  ⟨h.pow.only hg (by simp) (by simp), h.chip.only hg (by simp), h.mo⟩
theorem NDev.below' (h : NDev base w L S N m) (hb : Below w.heap.size w w') : NDev base w' L S N m := h.still (only_below hb)
theorem NDev.step (h : NDev base w L S N m) (hp : PowE w' L.pb L.mo S') (hg : w.grownBy w' (some L.pb)) : NDev base w' L S' N m := by
  have hO : Only [L.pb] w w' := only_grown hg (fun k e => by cases e; simp)
  obtain ⟨⟨n1, n2, n3, n4, n5, n6⟩, m1, m2, m3, m4⟩ := h.chip.ne
  refine ⟨hp, h.chip.only hO (fun k hk => ?_), h.mo⟩
  simp at hk
  subst hk
  exact ⟨⟨fun e => n1 e.symm, fun e => m2 e.symm, n4, n5⟩, .inl h.chip.lt.2.1⟩
theorem NChip.nextAt (h : NChip base w L N m) {j : Nat} (hj : j < N.nx.length) : w.cell? ⟨L.nb, j, none⟩ = some (.int .i64 (N.nx.getD j 0)) := by
  rw [h.nxt.cell j, List.getElem?_toArray, iv_at hj]
theorem NChip.countAt (h : NChip base w L N m) {j : Nat} (hj : j < N.er.length) : w.cell? ⟨L.eb, j, none⟩ = some (.int .i64 (N.er.getD j 0)) := by
  rw [h.ers.cell j, List.getElem?_toArray, iv_at hj]
theorem Blk.setI5 {b : Nat} {xs : List Int} (h : Blk w b (iv .i64 xs).toArray 3) (j : Nat) (y : Int) : Blk (w.setCell ⟨b, j, none⟩ (.int .i64 y)) b (iv .i64 (xs.set j y)).toArray 3 := by
  have := h.set j (.int .i64 y)
  rw [show iv .i64 (xs.set j y) = (iv .i64 xs).set j (.int .i64 y) from by simp [iv, List.map_set]]
  simpa using this
end

theorem isBlock_any (base : Nat) (w : World) (L : DLay) (N : DSt) (m n : Nat) (h : NChip base w L N m) (ok : N.Ok n) (b : Int) (hb : (Lit.int .i64 b).wf = true) :
    Calls Try.prog 37 #[.pointer (some ⟨L.c, 0, none⟩), .int .i64 b] w fun e w' => e = .returned (.bool (isB N b)) ∧ w' = w := by
  have c7 := h.blk.cell 7
  simp [dcells] at c7
  have hC := ok.C1
  unfold isB
  by_cases h1 : 0 ≤ b
  · go_enter Try.func37, Try.ntmps37
    go_wp2
    go_ret
    exact ⟨ret_one (congrArg Value.bool (by simp [h1])), rfl⟩
  · go_enter Try.func37, Try.ntmps37
    go_wp2
    go_ret
    exact ⟨ret_one (congrArg Value.bool (by simp; omega)), rfl⟩

theorem isPage_any (base : Nat) (w : World) (L : DLay) (N : DSt) (m n : Nat) (h : NChip base w L N m) (ok : N.Ok n) (b p : Int) (hb : (Lit.int .i64 b).wf = true) :
    Calls Try.prog 45 #[.pointer (some ⟨L.c, 0, none⟩), .int .i64 b, .int .i64 p] w fun e w' => e = .returned (.bool (isP N b p)) ∧ w' = w := by
  have c3 := h.blk.cell 3
  simp [dcells] at c3
  have hB := isBlock_any base w L N m n h ok b hb
  by_cases h0 : isB N b = true
  · have hu := isB_of h0
    rw [h0] at hB
    by_cases h1 : 0 ≤ p
    · have he : isP N b p = decide (p < N.D) := by simp [isP, hu, h1]
      rw [he]
      clear he h0
      go_enter Try.func45, Try.ntmps45
      go_wp2_with fail
      refine hB.mono ?_
      rintro e w1 ⟨rfl, rfl⟩
      go_wp2
      go_ret
      exact ⟨rfl, rfl⟩
    · have he : isP N b p = false := by simp [isP]; omega
      rw [he]
      clear he h0
      go_enter Try.func45, Try.ntmps45
      go_wp2_with fail
      refine hB.mono ?_
      rintro e w1 ⟨rfl, rfl⟩
      go_wp2
      go_ret
      exact ⟨rfl, rfl⟩
  · have h0' : isB N b = false := by simpa using h0
    rw [h0'] at hB
    have he : isP N b p = false := by simp [isP]; simp [isB] at h0'; omega
    rw [he]
    clear he h0 h0'
    go_enter Try.func45, Try.ntmps45
    go_wp2_with fail
    refine hB.mono ?_
    rintro e w1 ⟨rfl, rfl⟩
    go_wp2
    go_ret
    exact ⟨rfl, rfl⟩

theorem Programmed_any (base : Nat) (w : World) (L : DLay) (N : DSt) (m n : Nat) (h : NChip base w L N m) (ok : N.Ok n) (b : Int) (hb : (Lit.int .i64 b).wf = true) :
    Calls Try.prog 27 #[.pointer (some ⟨L.c, 0, none⟩), .int .i64 b] w fun e w' => e = .returned (.int .i64 (nextD N b)) ∧ w' = w := by
  have hB := isBlock_any base w L N m n h ok b hb
  have c7 := h.blk.cell 7
  simp [dcells] at c7
  unfold nextD
  by_cases h0 : isB N b = true
  · have hu := isB_of h0
    obtain ⟨i, rfl⟩ := Int.eq_ofNat_of_zero_le hu.1
    have ci := h.nextAt (j := i) (by rw [ok.nl]; omega)
    rw [h0] at hB ⊢
    rw [if_pos rfl, Int.toNat_natCast]
    have hi : (i : Int) < N.C := hu.2
    generalize N.nx.getD i 0 = x at *
    clear h0 hu
    go_enter Try.func27, Try.ntmps27
    go_wp2_with fail
    refine hB.mono ?_
    rintro e w1 ⟨rfl, rfl⟩
    go_wp2
    go_ret
    exact ⟨rfl, rfl⟩
  · have h0' : isB N b = false := by simpa using h0
    rw [h0'] at hB ⊢
    rw [if_neg (by simp)]
    clear h0 h0'
    go_enter Try.func27, Try.ntmps27
    go_wp2_with fail
    refine hB.mono ?_
    rintro e w1 ⟨rfl, rfl⟩
    go_wp2
    go_ret
    exact ⟨rfl, rfl⟩
theorem Erases5_any (base : Nat) (w : World) (L : DLay) (N : DSt) (m n : Nat) (h : NChip base w L N m) (ok : N.Ok n) (b : Int) (hb : (Lit.int .i64 b).wf = true) :
    Calls Try.prog 29 #[.pointer (some ⟨L.c, 0, none⟩), .int .i64 b] w fun e w' => e = .returned (.int .i64 (countD N b)) ∧ w' = w := by
  have hB := isBlock_any base w L N m n h ok b hb
  have c8 := h.blk.cell 8
  simp [dcells] at c8
  unfold countD
  by_cases h0 : isB N b = true
  · have hu := isB_of h0
    obtain ⟨i, rfl⟩ := Int.eq_ofNat_of_zero_le hu.1
    have ci := h.countAt (j := i) (by rw [ok.el]; omega)
    rw [h0] at hB ⊢
    rw [if_pos rfl, Int.toNat_natCast]
    have hi : (i : Int) < N.C := hu.2
    generalize N.er.getD i 0 = x at *
    clear h0 hu
    go_enter Try.func29, Try.ntmps29
    go_wp2_with fail
    refine hB.mono ?_
    rintro e w1 ⟨rfl, rfl⟩
    go_wp2
    go_ret
    exact ⟨rfl, rfl⟩
  · have h0' : isB N b = false := by simpa using h0
    rw [h0'] at hB ⊢
    rw [if_neg (by simp)]
    clear h0 h0'
    go_enter Try.func29, Try.ntmps29
    go_wp2_with fail
    refine hB.mono ?_
    rintro e w1 ⟨rfl, rfl⟩
    go_wp2
    go_ret
    exact ⟨rfl, rfl⟩
theorem Geometry5_any (base : Nat) (w : World) (L : DLay) (N : DSt) (m : Nat) (h : NChip base w L N m) :
    Calls Try.prog 10 #[.pointer (some ⟨L.c, 0, none⟩)] w fun e w' => e = .returned (.agg (gcells N.A N.B N.C N.D N.E)) ∧ Below w.heap.size w w' := by
  have hlt := h.blk.lt
  have c0 := h.blk.cell 0
  have c1 := h.blk.cell 1
  have c2 := h.blk.cell 2
  have c3 := h.blk.cell 3
  have c4 := h.blk.cell 4
  simp [dcells] at c0 c1 c2 c3 c4
  unfold gcells
  go_enter Try.func10, Try.ntmps10
  go_wp2
  refine bodyPost_ret (results_cell_row rfl _ _ w.heap.size 23 _ (0, 0) _ rfl (Blk.new w _ _) Try.underlying23 rfl (by kernel_rfl)) rfl ⟨rfl, ?_⟩
  exact (Below.refl _ _).alloc (Nat.le_refl _) _
theorem Power5_any (base : Nat) (w : World) (L : DLay) (N : DSt) (m : Nat) (h : NChip base w L N m) :
    Calls Try.prog 11 #[.pointer (some ⟨L.c, 0, none⟩)] w fun e w' => e = .returned (.pointer (some ⟨L.pb, 0, none⟩)) ∧ w' = w := by
  have c5 := h.blk.cell 5
  simp [dcells] at c5
  go_enter Try.func11, Try.ntmps11
  go_wp2
  go_ret
  exact ⟨rfl, rfl⟩

/-! ### a page that is programmed -/
def spoilE (S : PSt) (torn : Bool) : Int := if torn then 6 else if S.failed then 7 else 0
def spoilX (S : PSt) (torn : Bool) (xs : List Int) : List Int := if torn then xs.map (fun x => bits .or .u8 x S.mask) else if S.failed then xs.map (fun x => bits .and .u8 x 170) else xs
theorem spoil_any (base B : Nat) (w : World) (L : DLay) (S : PSt) (N : DSt) (m n : Nat) (h : NDev base w L S N m) (okS : S.Ok n) (hn : n < 900000) (g k cap : Nat) (xs : List Int) (torn : Bool)
    (hown : Own B w (.slice (some ⟨g, 0, none⟩) k cap) xs) (hk : xs.length = k) (hk2 : k < 1000000) :
    Calls Try.prog 47 #[.pointer (some ⟨L.c, 0, none⟩), .slice (some ⟨g, 0, none⟩) k cap, .bool torn] w fun e w' =>
      e = .returned (.int .i64 (spoilE S torn)) ∧ Own B w' (.slice (some ⟨g, 0, none⟩) k cap) (spoilX S torn xs) ∧ w.grownBy w' (some g) := by
  have c5 := h.chip.blk.cell 5
  simp [dcells] at c5
  cases torn with
  | true =>
    have hM := MaskE_any w L.pb L.mo S h.pow
    have hS := setBits5_any B w g k cap S.mask xs hown hk hk2
    simp only [spoilE, spoilX, if_true]
    go_enter Try.func47, Try.ntmps47
    go_wp2_with fail
    refine hM.mono ?_
    rintro e w1 ⟨rfl, rfl⟩
    go_wp2_with fail
    refine hS.mono ?_
    rintro e w2 ⟨rfl, ho, hg⟩
    go_wp2
    go_ret
    exact ⟨rfl, ho, hg⟩
  | false =>
    have hF := FailsE_any w L.pb L.mo S n h.pow okS (by omega)
    simp only [spoilE, spoilX, if_false, Bool.false_eq_true]
    cases hf : S.failed with
    | true =>
      rw [hf] at hF
      simp only [if_true]
      go_enter Try.func47, Try.ntmps47
      go_wp2_with fail
      refine hF.mono ?_
      rintro e w1 ⟨rfl, hg1⟩
      have hK := keepBits5_any B w1 g k cap 170 xs (hown.kept (grown_below hg1)) hk hk2
      go_wp2_with fail
      refine hK.mono ?_
      rintro e w2 ⟨rfl, ho, hg⟩
      go_wp2
      go_ret
      exact ⟨rfl, ho, grown_trans (grown_wide hg1 _) hg⟩
    | false =>
      rw [hf] at hF
      simp only [if_false, Bool.false_eq_true]
      go_enter Try.func47, Try.ntmps47
      go_wp2_with fail
      refine hF.mono ?_
      rintro e w1 ⟨rfl, hg1⟩
      go_wp2
      go_ret
      exact ⟨rfl, hown.kept (grown_below hg1), grown_wide hg1 _⟩
end Go.Proofs.Ythiehpofmlbehaa
