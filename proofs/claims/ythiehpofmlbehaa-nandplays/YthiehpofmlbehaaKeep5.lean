/-
  A nand with its power that a walk keeps; a new one; bytes that are made to fit.
-/
import Derived.Test.YthiehpofmlbehaaNandG
import Derived.Test.YthiehpofmlbehaaSmall5
import Derived.Test.YthiehpofmlbehaaHelp
namespace Go.Proofs.Ythiehpofmlbehaa
open Go.RowKit
set_option linter.unusedVariables false
set_option maxRecDepth 100000

theorem PSt.zero_ok5 (n : Nat) : PSt.zero.Ok n := ⟨by decide, by simp [PSt.zero]; try omega, by decide, by decide, by decide⟩
def DSt.new (A B : Int) (C D E : Nat) : DSt := ⟨A, B, C, D, E, List.replicate (C * D * (E + 16)) 255, List.replicate C 0, List.replicate C 0⟩
theorem DSt.new_ok {A B : Int} {C D E : Nat} (hr : rightS A B C D E = true) (n : Nat) : (DSt.new A B C D E).Ok n := by
  have hu := rightS_of hr
  refine ⟨?_, ?_, ?_, ?_, ?_, ?_, by simp [DSt.new], by simp [DSt.new], by simp [DSt.new], ?_, ?_, ?_⟩
  · show 4 ≤ C; omega
  · show C ≤ 64; omega
  · show 2 ≤ D; omega
  · show D ≤ 32; omega
  · show 16 ≤ E; omega
  · show E ≤ 256; omega
  · intro x hx; simp [DSt.new] at hx; omega
  · intro x hx; simp [DSt.new] at hx ⊢; omega
  · intro x hx; simp [DSt.new] at hx; omega

/-- A device that the walk keeps: its blocks are younger than w0, and nothing elder has turned. -/
structure KeptD (w0 : World) (base : Nat) (w : World) (L : DLay) (S : PSt) (N : DSt) (m : Nat) : Prop where
  dev : NDev base w L S N m
  lo : w0.heap.size ≤ L.c ∧ w0.heap.size ≤ L.pb ∧ w0.heap.size ≤ L.mb ∧ w0.heap.size ≤ L.nb ∧ w0.heap.size ≤ L.eb
  size : base ≤ w.heap.size
  wb : w0.heap.size ≤ base
  below : Below w0.heap.size w0 w
section
variable {w0 : World} {base m m' : Nat} {w w' : World} {L : DLay} {S S' : PSt} {N N' : DSt}
theorem KeptD.still (h : KeptD w0 base w L S N m) (hg : Only [] w w') : KeptD w0 base w' L S N m :=
  ⟨h.dev.still hg, h.lo, Nat.le_trans h.size hg.size, h.wb, hg.below h.below (by simp) (Nat.le_trans h.wb h.size)⟩
theorem KeptD.below' (h : KeptD w0 base w L S N m) (hb : Below w.heap.size w w') : KeptD w0 base w' L S N m := h.still (only_below hb)
theorem KeptD.alloc (h : KeptD w0 base w L S N m) (o : Obj) : KeptD w0 base (w.alloc o) L S N m := h.still (only_grown (World.grownBy_alloc _ _ none) (by simp))
theorem KeptD.turn (h : KeptD w0 base w L S N m) (hd : NDev base w' L S' N' m') (hg : Only [L.pb, L.mb, L.nb, L.eb] w w') : KeptD w0 base w' L S' N' m' := by
  obtain ⟨l1, l2, l3, l4, l5⟩ := h.lo
  refine ⟨hd, h.lo, Nat.le_trans h.size hg.size, h.wb, hg.below h.below ?_ (Nat.le_trans h.wb h.size)⟩
  intro k hk
  simp at hk
  rcases hk with rfl | rfl | rfl | rfl <;> assumption
theorem KeptD.turnB (h : KeptD w0 base w L S N m) (hd : NDev base w' L S' N' m') (hg : OnlyB base [L.pb, L.mb, L.nb, L.eb] w w') : KeptD w0 base w' L S' N' m' := by
  obtain ⟨l1, l2, l3, l4, l5⟩ := h.lo
  refine ⟨hd, h.lo, Nat.le_trans h.size hg.size, h.wb, hg.below h.below ?_ (Nat.le_trans h.wb h.size) h.wb⟩
  intro k hk
  simp at hk
  rcases hk with rfl | rfl | rfl | rfl <;> assumption
theorem KeptD.pow (h : KeptD w0 base w L S N m) (hp : PowE w' L.pb L.mo S') (hg : w.grownBy w' (some L.pb)) : KeptD w0 base w' L S' N m :=
  h.turn (h.dev.step hp hg) (only_grown hg (fun k e => by cases e; simp))
/-- Another map of what fails. -/
theorem KeptD.fail (h : KeptD w0 base w L S N m) {q : Nat} (hq : w.heap.size ≤ q) (hp : PowE w' L.pb (some q) S') (hg : w.grownBy w' (some L.pb)) : KeptD w0 base w' { L with mo := some q } S' N m := by
  have hO : Only [L.pb] w w' := only_grown hg (fun k e => by cases e; simp)
  obtain ⟨⟨n1, n2, n3, n4, n5, n6⟩, m1, m2, m3, m4⟩ := h.dev.chip.ne
  obtain ⟨b1, b2, b3, b4⟩ := h.dev.chip.lt
  have hsz := h.size
  obtain ⟨f, hf, hpg⟩ := h.dev.chip.pgs
  have hmb := hf.lt
  have hpg' := hpg.only hO (fun k hk => by simp at hk; subst hk; exact .inl b2)
  refine ⟨⟨hp, ⟨h.dev.chip.blk.only hO (by simp; omega), h.dev.chip.nxt.only hO (by simp; omega), h.dev.chip.ers.only hO (by simp; omega), ⟨f, hf.only hO (by simp; omega), ⟨?_, hpg'.non, hpg'.inj⟩⟩, h.dev.chip.lt, h.dev.chip.ne⟩, ?_⟩, h.lo, Nat.le_trans h.size hg.size, h.wb, ?_⟩
  · intro i k v hi hk hv
    obtain ⟨g, cap, rfl, ho, _, _⟩ := hpg.own i k v hi hk hv
    obtain ⟨g2, cap2, e2, ho2, hn2, hx2⟩ := hpg'.own i k _ hi hk hv
    cases e2
    have := ho.block g rfl
    exact ⟨g, cap, rfl, ho2, ⟨hn2.1, by simp; omega⟩, hx2⟩
  · intro k hk
    simp at hk
    subst hk
    simp only
    omega
  · exact hO.below h.below (by simp; exact h.lo.2.1) (Nat.le_trans h.wb h.size)
/-- A block from base on that is no page of its own is none that turns. -/
theorem KeptD.far (h : KeptD w0 base w L S N m) {g : Nat} (hg : base ≤ g) (hm : g ≠ L.mb) : g ∉ [L.pb, L.mb, L.nb, L.eb] := by
  obtain ⟨b1, b2, b3, b4⟩ := h.dev.chip.lt
  simp; omega
end

/-- Made behind w0. -/
theorem MadeD.kept {w0 w1 w2 w' : World} {k mb nb eb C D E : Nat} {A B : Int} (hb : Below w0.heap.size w0 w1) (hw : w2 = w1.alloc (.cells (pcells PSt.zero none) 64)) (h : MadeD w2 w' k mb nb eb A B C D E (some ⟨w1.heap.size, 0, none⟩)) (hr : rightS A B C D E = true) :
    KeptD w0 w'.heap.size w' ⟨k, w1.heap.size, none, mb, nb, eb⟩ PSt.zero (DSt.new A B C D E) 0 := by
  have hs := hb.size
  have hs2 : w2.heap.size = w1.heap.size + 1 := by rw [hw]; simp
  have hs3 := h.below.size
  have hP : PowE w2 w1.heap.size none PSt.zero := hw ▸ PowE.new w1
  obtain ⟨l1, l2, l3, l4⟩ := h.lo
  obtain ⟨n1, n2, n3, n4, n5, n6⟩ := h.ne
  have b1 := h.blk.lt
  have b2 := h.nxt.lt
  have b3 := h.ers.lt
  have ok := DSt.new_ok hr 0
  refine ⟨⟨hP.only (x := []) (only_below h.below) (by simp) (by simp), ⟨h.blk, h.nxt, h.ers, ⟨_, h.map, ⟨(fun i k v _ _ e => by cases e), (fun i k hi hk _ => ?_), (fun i k i' k' g n cap n' cap' _ _ _ _ e => by cases e)⟩⟩, ?_, ?_⟩, (fun k e => by cases e)⟩, ?_, Nat.le_refl _, by omega, ?_⟩
  · have hle := ok.at_le hi hk
    refine pgs_eq hle (by simp) (fun j hj => ?_)
    have hj' : j < E + 16 := hj
    show (List.replicate (C * D * (E + 16)) (255 : Int)).getD _ 0 = _
    have hl2 : (DSt.new A B C D E).bs.length = C * D * (E + 16) := by simp [DSt.new]
    have hle2 : (DSt.new A B C D E).at i k + (E + 16) ≤ C * D * (E + 16) := hl2 ▸ hle
    rw [getD_rep _ _ _ (by omega), getD_rep _ _ _ hj]
  · simp only; omega
  · simp only; omega
  · simp only; omega
  · have h1 : Below w0.heap.size w0 w2 := hw ▸ hb.alloc hs _
    exact h1.trans (h.below.mono (by omega))

/-- Bytes, so many. -/
def fitS (d : List Int) (n : Nat) : List Int := d.take n ++ List.replicate (n - d.length) 0
theorem fitS_length (d : List Int) (n : Nat) : (fitS d n).length = n := by simp [fitS]; omega
theorem fitS_bys {d : List Int} (h : Bys d) (n : Nat) : Bys (fitS d n) := (h.take n).app (fun x hx => by simp at hx; omega)
theorem own_block {w : World} {g n base : Nat} {xs : List Int} (h : Blk w g (bv xs).toArray 5) (hb : base ≤ g) (hl : xs.length = n) (hn : n ≤ 1000000) (hx : Bys xs) : Own base w (.slice (some ⟨g, 0, none⟩) n n) xs := by
  subst hl
  exact ⟨⟨by simp [bv], .inr ⟨g, xs.length, (bv xs).toArray, rfl, hb, h, Nat.le_refl _, by unfold maxLen; omega, by simp [bv], by rw [Nat.mul_one]; show (bv xs).take _ = _; exact List.take_of_length_le (by simp [bv])⟩⟩, hx⟩
set_option maxHeartbeats 1000000 in
theorem fit5_any (w : World) (v : Value) (d : List Int) (n : Nat) (h : Row w v d) (h0 : 0 < n) (hn : n ≤ 100000) :
    Calls Try.prog 19 #[v, .int .i64 n] w fun e w' => ∃ g, w.heap.size ≤ g ∧ e = .returned (.slice (some ⟨g, 0, none⟩) n n) ∧ Own w.heap.size w' (.slice (some ⟨g, 0, none⟩) n n) (fitS d n) ∧ Below w.heap.size w w' := by
  have hmk := fun w => run_make_bytes5 w n (by omega)
  have hdl := h.len
  unfold maxLen at hdl
  have hsz : (Try.prog.info? 5).map (·.size) = some 1 := by kernel_rfl
  have hB : Below w.heap.size w (w.alloc (.cells (bv (List.replicate n 0)).toArray 5)) := (Below.refl _ _).alloc (Nat.le_refl _) _
  have hnew : (w.alloc (.cells (bv (List.replicate n 0)).toArray 5)).heap[w.heap.size]? = some (.cells (bv (List.replicate n 0)).toArray 5 (0, 0)) := Blk.new w _ _
  have hsp : splice (bv (List.replicate n 0)) 0 (bv (d.take n)) = bv (fitS d n) := by
    have e1 : (bv (List.replicate n 0)).drop (0 + (bv (d.take n)).length) = bv (List.replicate (n - d.length) 0) := by
      rw [Nat.zero_add, bv_length, List.length_take]
      unfold bv
      rw [List.map_replicate, List.map_replicate, List.drop_replicate]
      congr 1
      omega
    unfold splice fitS
    rw [e1, bv_append]
    rfl
  have hr2 := h.below hB
  have P1 : (bv (d.take n)).length = Nat.min d.length n := by rw [bv_length, List.length_take]; exact Nat.min_comm _ _
  have hfit : 0 + (bv (d.take n)).length ≤ (bv (List.replicate n 0)).length := by simp [bv_length]; omega
  have hpos : 0 < (bv (d.take n)).length → ∃ ad, (∃ dc, v = .slice (some ad) d.length dc) ∧ ∀ j u, (bv (d.take n))[j]? = some u → (w.alloc (.cells (bv (List.replicate n 0)).toArray 5)).cell? (ad.add j) = some u := by
    intro hp
    have hd0 : d ≠ [] := by intro e; subst e; simp [bv] at hp
    obtain ⟨b, off, cap, hv, _, _, hc⟩ := hr2.at hd0
    refine ⟨_, ⟨_, hv⟩, fun j u hu => ?_⟩
    obtain ⟨hj, rfl⟩ := bv_get hu
    rw [List.length_take] at hj
    rw [Addr.add_lit, hc j (by omega)]
    simp [List.getD, show j < n by omega]
  obtain ⟨ao, cap, rfl⟩ := h.of_len
  have hpos' : 0 < (bv (d.take n)).length → (some (⟨w.heap.size, 0, none⟩ : Addr) = some ⟨w.heap.size, 0, none⟩) ∧ ∃ ad, ao = some ad ∧ ∀ j u, (bv (d.take n))[j]? = some u → (w.alloc (.cells (bv (List.replicate n 0)).toArray 5)).cell? (ad.add j) = some u := by
    intro hp
    obtain ⟨ad, ⟨dc, e⟩, hc⟩ := hpos hp
    simp at e
    exact ⟨rfl, ad, e.1, hc⟩
  have HN := hide hnew
  have HP := hide hpos'
  have HSP := hide hsp
  have hone := bv_one (d.take n)
  have hby := fitS_bys h.bys n
  clear hnew hpos' hpos hsp hr2 h
  generalize hcs : bv (d.take n) = cs at *
  generalize d.length = dl at *
  have hcl : (cs.length : Int) = cs.length := rfl
  go_enter Try.func19, Try.ntmps19
  go_wp2_with (refine wpList_copy_splice rfl _ _ 43 43 rfl 5 Try.underlying43 hsz _ _ _ _ _ _ rfl rfl w.heap.size 0 _ 5 HN.out cs P1 HP.out hfit hone w.heap.size w hB (Nat.le_refl _) ?_)
  intro w2 HG2 hB2
  rw [HSP.out] at HG2
  have hown := own_block (n := n) HG2.out (Nat.le_refl _) (fitS_length d n) (by omega) hby
  clear HN HP HSP hB HG2
  go_wp2
  go_ret
  exact ⟨_, Nat.le_refl _, rfl, hown, hB2⟩
end Go.Proofs.Ythiehpofmlbehaa
