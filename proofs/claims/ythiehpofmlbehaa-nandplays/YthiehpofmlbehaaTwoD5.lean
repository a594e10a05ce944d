/-
  Two chips of pages that a walk keeps side by side: the program's and the document's.
-/
import Derived.Test.YthiehpofmlbehaaKeep5
import Derived.Test.YthiehpofmlbehaaRNandZ
namespace Go.Proofs.Ythiehpofmlbehaa
open Go.RowKit
set_option linter.unusedVariables false
set_option maxRecDepth 100000

theorem OnlyB.toOnly {base : Nat} {l : List Nat} {w w' : World} (h : OnlyB base l w w') : Only (l ++ List.range' base (w.heap.size - base)) w w' :=
  ⟨h.os, h.tape, h.output, h.size, fun k hk hn => h.block k (by simp at hn; omega) hk (fun e => hn (List.mem_append_left _ e))⟩
def DLay.all (L : DLay) : List Nat := [L.pb, L.mb, L.nb, L.eb]

structure TwoD (w0 : World) (base : Nat) (w : World) (L : DLay) (M : RLy) (v : Value) (S : PSt) (N : DSt) (m : Nat) (S2 : PSt) (N2 : DSt) : Prop where
  kd : KeptD w0 base w L S N m
  rd : RNDev w M v S2 N2
  lt : M.pb < base ∧ M.c < base ∧ M.bb < base ∧ M.nb < base ∧ M.eb < base
  ge : w0.heap.size ≤ M.pb ∧ w0.heap.size ≤ M.c ∧ w0.heap.size ≤ M.bb ∧ w0.heap.size ≤ M.nb ∧ w0.heap.size ≤ M.eb
  ne : ∀ k ∈ [M.pb, M.c, M.bb, M.nb, M.eb], k ∉ [L.c, L.pb, L.mb, L.nb, L.eb] ∧ L.mo ≠ some k
  old : S2.fails ≠ [] → ∀ b off n cap, v = .slice (some ⟨b, off, none⟩) n cap → b < w0.heap.size
section
variable {w0 : World} {base m m' : Nat} {w w' : World} {L : DLay} {M : RLy} {v : Value} {S S' S2 S2' : PSt} {N N' N2 N2' : DSt}
theorem TwoD.still (h : TwoD w0 base w L M v S N m S2 N2) (hg : Only [] w w') : TwoD w0 base w' L M v S N m S2 N2 := ⟨h.kd.still hg, h.rd.still hg, h.lt, h.ge, h.ne, h.old⟩
theorem TwoD.below' (h : TwoD w0 base w L M v S N m S2 N2) (hb : Below w.heap.size w w') : TwoD w0 base w' L M v S N m S2 N2 := h.still (only_below hb)
theorem TwoD.alloc (h : TwoD w0 base w L M v S N m S2 N2) (o : Obj) : TwoD w0 base (w.alloc o) L M v S N m S2 N2 := h.still (only_grown (World.grownBy_alloc _ _ none) (by simp))
/-- The document's stays when what turns lies among the program's own, or from base on. -/
theorem TwoD.rkeep (h : TwoD w0 base w L M v S N m S2 N2) {l : List Nat} (hg : Only l w w') (hl : ∀ k ∈ l, k ∈ L.all ∨ base ≤ k) : RNDev w' M v S2 N2 := by
  obtain ⟨l1, l2, l3, l4, l5⟩ := h.lt
  obtain ⟨k1, k2, k3, k4, k5⟩ := h.kd.lo
  have key : ∀ x ∈ [M.pb, M.c, M.bb, M.nb, M.eb], x < base → x ∉ l := fun x hx hb hm => by
    have hn := (h.ne x hx).1
    rcases hl x hm with h1 | h1
    · simp [DLay.all] at h1
      simp at hn
      omega
    · omega
  refine h.rd.only hg (key _ (by simp) l1) ⟨key _ (by simp) l2, key _ (by simp) l3, key _ (by simp) l4, key _ (by simp) l5⟩ (fun h0 b off n cap e hm => ?_)
  have hb := h.old h0 b off n cap e
  have hw := h.kd.wb
  rcases hl b hm with h1 | h1
  · simp [DLay.all] at h1
    omega
  · omega
theorem TwoD.turnL (h : TwoD w0 base w L M v S N m S2 N2) (hd : NDev base w' L S' N' m') (hg : Only L.all w w') : TwoD w0 base w' L M v S' N' m' S2 N2 :=
  ⟨h.kd.turn hd hg, h.rkeep hg (fun k hk => .inl hk), h.lt, h.ge, h.ne, h.old⟩
theorem TwoD.turnLB (h : TwoD w0 base w L M v S N m S2 N2) (hd : NDev base w' L S' N' m') (hg : OnlyB base L.all w w') : TwoD w0 base w' L M v S' N' m' S2 N2 :=
  ⟨h.kd.turnB hd hg, h.rkeep hg.toOnly (fun k hk => by
    rcases List.mem_append.1 hk with h1 | h1
    · exact .inl h1
    · exact .inr (List.mem_range'_1.1 h1).1), h.lt, h.ge, h.ne, h.old⟩
theorem TwoD.powL (h : TwoD w0 base w L M v S N m S2 N2) (hp : PowE w' L.pb L.mo S') (hg : w.grownBy w' (some L.pb)) : TwoD w0 base w' L M v S' N m S2 N2 :=
  ⟨h.kd.pow hp hg, h.rkeep (only_grown hg (fun k e => by cases e; simp) : Only [L.pb] w w') (fun k hk => by simp at hk; subst hk; exact .inl (by simp [DLay.all])), h.lt, h.ge, h.ne, h.old⟩
/-- What turns of the document's is none of the program's. -/
theorem TwoD.lkeep (h : TwoD w0 base w L M v S N m S2 N2) {l : List Nat} (hg : Only l w w') (hl : ∀ k ∈ l, k ∈ M.all) : KeptD w0 base w' L S N m := by
  obtain ⟨l1, l2, l3, l4, l5⟩ := h.lt
  obtain ⟨g1, g2, g3, g4, g5⟩ := h.ge
  have key : ∀ k ∈ l, (k ∉ [L.c, L.pb, L.mb, L.nb, L.eb] ∧ L.mo ≠ some k) ∧ k < base ∧ w0.heap.size ≤ k := fun k hk => by
    have h1 := hl k hk
    simp [RLy.all] at h1
    rcases h1 with rfl | rfl | rfl | rfl
    · exact ⟨h.ne _ (by simp), l1, g1⟩
    · exact ⟨h.ne _ (by simp), l3, g3⟩
    · exact ⟨h.ne _ (by simp), l4, g4⟩
    · exact ⟨h.ne _ (by simp), l5, g5⟩
  refine ⟨⟨h.kd.dev.pow.only hg (fun hm => by have := (key _ hm).1.1; simp at this) (fun k hk hm => (key _ hm).1.2 hk), h.kd.dev.chip.only hg (fun k hk => ?_), h.kd.dev.mo⟩, h.kd.lo, Nat.le_trans h.kd.size hg.size, h.kd.wb, hg.below h.kd.below (fun k hk => (key k hk).2.2) (Nat.le_trans h.kd.wb h.kd.size)⟩
  have := key k hk
  have h2 := this.1.1
  simp at h2
  exact ⟨⟨h2.1, h2.2.2.1, h2.2.2.2.1, h2.2.2.2.2⟩, .inl this.2.1⟩
theorem TwoD.turnR (h : TwoD w0 base w L M v S N m S2 N2) (hd : RNDev w' M v S2' N2') (hf : S2'.fails = S2.fails) (hg : Only M.all w w') : TwoD w0 base w' L M v S N m S2' N2' :=
  ⟨h.lkeep hg (fun k hk => hk), hd, h.lt, h.ge, h.ne, hf ▸ h.old⟩
theorem TwoD.powR (h : TwoD w0 base w L M v S N m S2 N2) (hp : RPowX w' M.pb v S2') (hf : S2'.fails = S2.fails) (hg : w.grownBy w' (some M.pb)) : TwoD w0 base w' L M v S N m S2' N2 :=
  ⟨h.lkeep (only_grown hg (fun k e => by cases e; simp) : Only [M.pb] w w') (fun k hk => by simp at hk; subst hk; simp [RLy.all]), h.rd.step hp hf hg, h.lt, h.ge, h.ne, hf ▸ h.old⟩
/-- A block from base on turns that is no page. -/
theorem TwoD.farR (h : TwoD w0 base w L M v S N m S2 N2) {g : Nat} (hg : base ≤ g) : g ∉ M.all := by
  obtain ⟨l1, l2, l3, l4, l5⟩ := h.lt
  simp [RLy.all]; omega
theorem TwoD.farO (h : TwoD w0 base w L M v S N m S2 N2) {g : Nat} (hg : g < w0.heap.size) : g ∉ M.all ∧ g ∉ L.all := by
  obtain ⟨l1, l2, l3, l4, l5⟩ := h.ge
  obtain ⟨k1, k2, k3, k4, k5⟩ := h.kd.lo
  simp [RLy.all, DLay.all]; omega
end

/-- Made behind w0, the power ahead of other things. -/
theorem MadeD.kept2 {w0 w1 w2 w3 w' : World} {k mb nb eb C D E : Nat} {A B : Int} (hb : Below w0.heap.size w0 w1) (hw : w2 = w1.alloc (.cells (pcells PSt.zero none) 64)) (hb3 : Below w2.heap.size w2 w3) (h : MadeD w3 w' k mb nb eb A B C D E (some ⟨w1.heap.size, 0, none⟩)) (hr : rightS A B C D E = true) :
    KeptD w0 w'.heap.size w' ⟨k, w1.heap.size, none, mb, nb, eb⟩ PSt.zero (DSt.new A B C D E) 0 := by
  have hs := hb.size
  have hs2 : w2.heap.size = w1.heap.size + 1 := by rw [hw]; simp
  have hs3 := h.below.size
  have hs4 := hb3.size
  have hP : PowE w2 w1.heap.size none PSt.zero := hw ▸ PowE.new w1
  obtain ⟨l1, l2, l3, l4⟩ := h.lo
  obtain ⟨n1, n2, n3, n4, n5, n6⟩ := h.ne
  have b1 := h.blk.lt
  have b2 := h.nxt.lt
  have b3 := h.ers.lt
  have ok := DSt.new_ok hr 0
  refine ⟨⟨(hP.only (x := []) (only_below hb3) (by simp) (by simp)).only (x := []) (only_below h.below) (by simp) (by simp), ⟨h.blk, h.nxt, h.ers, ⟨_, h.map, ⟨(fun i k v _ _ e => by cases e), (fun i k hi hk _ => ?_), (fun i k i' k' g n cap n' cap' _ _ _ _ e => by cases e)⟩⟩, ?_, ?_⟩, (fun k e => by cases e)⟩, ?_, Nat.le_refl _, by omega, ?_⟩
  · have hle := ok.at_le hi hk
    refine pgs_eq hle (by simp) (fun j hj => ?_)
    have hj' : j < E + 16 := hj
    show (List.replicate (C * D * (E + 16)) (255 : Int)).getD _ 0 = _
    have hl2 : (DSt.new A B C D E).bs.length = C * D * (E + 16) := by simp [DSt.new]
    have hle2 : (DSt.new A B C D E).at i k + (E + 16) ≤ C * D * (E + 16) := hl2 ▸ hle
    rw [getD_rep _ _ _ (by omega), getD_rep _ _ _ hj]
  · simp only; omega
  · simp only; omega
  · simp only; omega
  · have h1 : Below w0.heap.size w0 w2 := hw ▸ hb.alloc hs _
    exact (h1.trans (hb3.mono (by omega))).trans (h.below.mono (by omega))

theorem NDev.raiseD {base base' m : Nat} {w : World} {L : DLay} {S : PSt} {N : DSt} (h : NDev base w L S N m) (hz : ∀ i, i < N.C → N.nx.getD i 0 = 0) (hb : base ≤ base') : NDev base' w L S N m := by
  obtain ⟨f, hf, hp⟩ := h.chip.pgs
  have hlt := h.chip.lt
  refine ⟨h.pow, ⟨h.chip.blk, h.chip.nxt, h.chip.ers, ⟨f, hf, ⟨fun i k v hi hk hv => ?_, hp.non, hp.inj⟩⟩, by omega, h.chip.ne⟩, h.mo⟩
  obtain ⟨g, cap, _, _, _, hx⟩ := hp.own i k v hi hk hv
  rw [hz i hi] at hx
  omega
theorem twoD_made {w0 w1 w2 w3 w4 : World} {k mb nb eb C D E : Nat} {A B : Int} {M : RLy} (hb : Below w0.heap.size w0 w1) (hw : w2 = (w1.alloc (.cells (pcells PSt.zero none) 64)).alloc (.cells (rcells PSt.zero (.slice none 0 0)) 42))
    (h : MadeD w2 w3 k mb nb eb A B C D E (some ⟨w1.heap.size, 0, none⟩)) (hr : rightS A B C D E = true) (hR : RChip w4 M (DSt.new A B C D E)) (hMp : M.pb = w1.heap.size + 1) (hMl : w3.heap.size ≤ M.c ∧ w3.heap.size ≤ M.bb ∧ w3.heap.size ≤ M.nb ∧ w3.heap.size ≤ M.eb) (hb4 : Below w3.heap.size w3 w4) :
    TwoD w0 w4.heap.size w4 ⟨k, w1.heap.size, none, mb, nb, eb⟩ M (.slice none 0 0) PSt.zero (DSt.new A B C D E) 0 PSt.zero (DSt.new A B C D E) := by
  have hs := hb.size
  have hs2 : w2.heap.size = w1.heap.size + 2 := by rw [hw]; simp
  have hs3 := h.below.size
  have hs4 := hb4.size
  have hK := (MadeD.kept2 hb rfl (w2 := w1.alloc (.cells (pcells PSt.zero none) 64)) (by rw [hw]; exact (Below.refl _ _).alloc (Nat.le_refl _) _) h hr).below' hb4
  have hq : Blk w2 (w1.heap.size + 1) (rcells PSt.zero (.slice none 0 0)) 42 := by
    rw [hw]
    have := Blk.new (w1.alloc (.cells (pcells PSt.zero none) 64)) (rcells PSt.zero (.slice none 0 0)) 42
    simpa using this
  have hb24 : Below w2.heap.size w2 w4 := h.below.trans (hb4.mono hs3)
  have hq4 := hq.below hb24 (by omega)
  obtain ⟨l1, l2, l3, l4⟩ := h.lo
  have b1 := h.blk.lt
  have b2 := h.nxt.lt
  have b3 := h.ers.lt
  have b4 := h.map.lt
  have r1 := hR.blk.lt
  have r2 := (hR.byt.block M.bb rfl).2
  have r3 := hR.nxt.lt
  have r4 := hR.ers.lt
  refine ⟨⟨hK.dev.raiseD (fun i hi => ?_) hs4, hK.lo, Nat.le_refl _, Nat.le_trans hK.wb hs4, hK.below⟩, ⟨⟨hMp ▸ hq4, IRow.nil _ _, fun h => absurd rfl h⟩, hR, fun h => absurd rfl h⟩, ?_, ?_, ?_, fun h => absurd rfl h⟩
  · show (List.replicate C (0 : Int)).getD i 0 = 0
    simp only [List.getD, List.getElem?_replicate]
    split <;> rfl
  · omega
  · omega
  · intro x hx
    simp at hx ⊢
    omega

theorem TwoD.fail {w0 : World} {base m : Nat} {w w' : World} {L : DLay} {M : RLy} {v : Value} {S S' S2 : PSt} {N N2 : DSt} (h : TwoD w0 base w L M v S N m S2 N2) {q : Nat} (hq : w.heap.size ≤ q) (hp : PowE w' L.pb (some q) S') (hg : w.grownBy w' (some L.pb)) : TwoD w0 base w' { L with mo := some q } M v S' N m S2 N2 := by
  obtain ⟨l1, l2, l3, l4, l5⟩ := h.lt
  have hs := h.kd.size
  refine ⟨h.kd.fail hq hp hg, h.rkeep (only_grown hg (fun k e => by cases e; simp) : Only [L.pb] w w') (fun k hk => by simp at hk; subst hk; exact .inl (by simp [DLay.all])), h.lt, h.ge, fun k hk => ⟨(h.ne k hk).1, ?_⟩, h.old⟩
  intro e
  simp at e
  simp at hk
  omega
theorem TwoD.which {w0 : World} {base m : Nat} {w : World} {L : DLay} {M : RLy} {v fv : Value} {S S2 : PSt} {N N2 : DSt} {fl : List Int} (h : TwoD w0 base w L M v S N m S2 N2) (hf : IRow .i64 w fv fl) (ho : fl ≠ [] → ∀ b off n cap, fv = .slice (some ⟨b, off, none⟩) n cap → b < w0.heap.size) :
    TwoD w0 base (w.setCell ⟨M.pb, 4, none⟩ fv) L M fv S N m { S2 with fails := fl } N2 := by
  have hO : Only [M.pb] w (w.setCell ⟨M.pb, 4, none⟩ fv) := only_setCell w M.pb 4 fv [M.pb] (by simp)
  obtain ⟨_, n1, n2, n3, n4⟩ := h.rd.chip.ne
  obtain ⟨g1, g2, g3, g4, g5⟩ := h.ge
  have hfar : fl ≠ [] → ∀ b off n cap, fv = .slice (some ⟨b, off, none⟩) n cap → b ≠ M.pb ∧ b ≠ M.c ∧ b ≠ M.bb ∧ b ≠ M.nb ∧ b ≠ M.eb := fun h0 b off n cap e => by have := ho h0 b off n cap e; omega
  refine ⟨h.lkeep hO (fun k hk => by simp at hk; subst hk; simp [RLy.all]), ⟨⟨?_, hf.onlyX hO (fun h0 b off n cap e => by simp; exact (hfar h0 b off n cap e).1), fun h0 b off n cap e => (hfar h0 b off n cap e).1⟩, h.rd.chip.only hO (by simp; omega), fun h0 b off n cap e => (hfar h0 b off n cap e).2⟩, h.lt, h.ge, h.ne, ho⟩
  have := h.rd.pow.blk.set 4 fv
  simpa [rcells] using this
theorem progD_fails (S : PSt) (N : DSt) (b p : Int) (d s : List Int) : (progD S N b p d s).2.1.fails = S.fails := by
  unfold progD
  repeat' split
  all_goals first | rfl | exact step_fails S
theorem eraseD_fails (S : PSt) (N : DSt) (b : Int) : (eraseD S N b).2.1.fails = S.fails := by
  unfold eraseD
  repeat' split
  all_goals first | rfl | exact step_fails S
end Go.Proofs.Ythiehpofmlbehaa
