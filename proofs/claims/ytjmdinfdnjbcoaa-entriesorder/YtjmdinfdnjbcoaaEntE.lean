/-
  Entries: places, Find.
-/
import Derived.Test.YtjmdinfdnjbcoaaEntD
namespace Go.Proofs.Ytjmdinfdnjbcoaa
open Go.RowKit Go.Maps Go.Shelf
set_option linter.unusedVariables false
set_option maxRecDepth 100000
attribute [local go_sem] Oper.semAt_some

theorem backStops (n : Nat) (hn : 1 ≤ n) (Bs : Nat) (w0 w : World) (v : Value) (zs : List En) (h : ERow w0 v zs) (hz : zs.length ≤ 1000000) (hb0 : Below w0.heap.size w0 w) (hBs : Boxed w Bs 22 v) :
    SeqStopsK Fence.wide n Try.prog 35 #[.pointer (some ⟨Bs, 0, none⟩)] (fun x : Pl => #[Value.int .i64 (x.1.1 : Int), Value.agg #[.string x.1.2.s, .int .i64 x.1.2.n]]) (KpE w0 Bs) (fun ys => BackE zs zs.length ys) (fun _ => True) zs.length w :=
  fun l J Jx W hW _ _ hY hJ => backIt_in n hn l Bs w0 v zs h hz J Jx hY W (hb0.trans (hW.mono hb0.size)) ((hW.block Bs hBs.lt).trans hBs) hJ

set_option maxHeartbeats 4000000 in
theorem places_any (w : World) (v : Value) (l : List En) (h : ERow w v l) (hz : l.length ≤ 1000000) :
    Calls Try.prog 21 #[v] w fun e w' => e = .returned (.map (some w.heap.size)) ∧ (∃ n, NMap w' w.heap.size n (atS l)) ∧ Below w.heap.size w w' := by
  have HR := hide h
  obtain ⟨ao, cap, rfl⟩ := h.of_len
  have hmk := run_makeNm
  obtain ⟨len, hL⟩ : ∃ n, l.length = n := ⟨_, rfl⟩
  have HL := hide hL
  rw [hL] at HR hz ⊢
  clear h hL
  refine (callsIn_wide (n := 5)).1 ?_
  refine callsIn_of_wp_marks Try.func21 rfl trivial ?_ rfl
  simp only [Try.ntmps21, List.size_toArray, List.length_cons, List.length_nil, Nat.reduceAdd, Nat.reduceSub, Array.replicate_succ, Array.replicate_zero, List.push_toArray, List.append_toArray, List.nil_append, List.cons_append]
  gi_wp2_with (refine ⟨trivial, ?_⟩; gi_at_call 30; refine (callsIn_wide.2 (Backward_any _ _ _ _)).mono ?_; rintro e w' ⟨rfl, rfl⟩)
  have hM0 := ((NMap.made w).below (kl_alloc _ (.cells #[.map (some w.heap.size)] 45))).below (kl_alloc _ (.cells #[.slice ao len cap] 22))
  have bM := (Boxed.new (w.alloc (.map #[] 0)) 45 (.map (some w.heap.size))).alloc (.cells #[.slice ao len cap] 22)
  have bS := Boxed.new ((w.alloc (.map #[] 0)).alloc (.cells #[.map (some w.heap.size)] 45)) 22 (.slice ao len cap)
  simp only [World.size_alloc] at bM bS
  have hB0 : Below w.heap.size w (((w.alloc (.map #[] 0)).alloc (.cells #[.map (some w.heap.size)] 45)).alloc (.cells #[.slice ao len cap] 22)) := (((Below.refl _ w).alloc (Nat.le_refl _) _).alloc (by simp) _).alloc (by simp; omega) _
  have hsz : (((w.alloc (.map #[] 0)).alloc (.cells #[.map (some w.heap.size)] 45)).alloc (.cells #[.slice ao len cap] 22)).heap.size = w.heap.size + 3 := by simp
  obtain ⟨W0, hW0⟩ : ∃ W0, ((w.alloc (.map #[] 0)).alloc (.cells #[.map (some w.heap.size)] 45)).alloc (.cells #[.slice ao len cap] 22) = W0 := ⟨_, rfl⟩
  rw [hW0] at hM0 bM bS hB0 hsz ⊢
  clear hW0
  have hlen : Hid (∀ k : Nat, k < l.length → k < 10000000) := fun k hk => by have := HL.out; omega
  refine wpIn_rangeFunc_ownH rfl (by omega) (gf := 35) (lb := #[.pointer (some ⟨w.heap.size + 1 + 1, 0, none⟩)]) rfl trivial (enters_of Try.func35 (by kernel_rfl) rfl)
    (backStops 4 (by omega) (w.heap.size + 1 + 1) w W0 (.slice ao len cap) l HR.out (by rw [HL.out]; exact hz) hB0 bS) KpE.t (KpE.b (by omega) (by omega)) (Below.refl _ _) (fun _ => rfl)
    (fun pre W => (NMap W w.heap.size pre.length (putsF pre) ∧ Boxed W (w.heap.size + 1) 45 (.map (some w.heap.size))) ∧ Below w.heap.size w W)
    (fun _ _ _ => False)
    ?own
    (fun _ _ _ _ _ hs _ _ => hs)
    ⟨⟨hM0, bM⟩, hB0⟩
    (fun x a' W => ∃ Bx, w.heap.size + 1 < Bx ∧ Blk W Bx #[.string x.1.2.s, .int .i64 x.1.2.n] 24 ∧ a' = { tmps := #[.slice ao len cap, undef, .map none, .pointer (some ⟨w.heap.size + 1, 0, none⟩), .int .i64 (x.1.1 : Int), .pointer (some ⟨Bx, 0, none⟩), .slice ao len cap, .int .i64 len, .map (some w.heap.size), .slice ao len cap, .func (.func 35) #[] #[.pointer (some ⟨w.heap.size + 1 + 1, 0, none⟩)], .int .i64 (x.1.1 : Int), .agg #[.string x.1.2.s, .int .i64 x.1.2.n], undef, undef, undef, undef, undef, undef], defers := [] })
    ?ownA
    ?assign ?body ?done ?stop
  case own =>
    refine OwnFrom.and (fun s A B row hs hg hr => ⟨hs.1.kept hg (fun e => by have := (hr _ e.symm).1; omega), ?_⟩) (ownFrom_below (Nat.le_refl _) (by omega))
    exact hs.2.kept hg (fun e => by have := (hr _ e.symm).1; omega)
  case ownA =>
    rintro x a' _ A B row ⟨Bx, h1, h2, h3⟩ hg hr
    refine ⟨Bx, h1, h2.kept hg (fun e => ?_), h3⟩
    obtain ⟨_, o, ho, hc⟩ := hr _ e.symm
    rw [show A.heap[Bx]? = _ from h2] at ho
    cases ho
    cases hc
  case assign =>
    rintro lp pre x W K ⟨⟨hM1, bM1⟩, hB1⟩ hK
    gi_wp2
    exact hK _ _ ((KeepsOthers.alloc _ _).from _) ⟨(Below.refl _ W).alloc hB1.size _, fun v t hb => hb.alloc _⟩ ⟨⟨hM1.below (kl_alloc _ _), bM1.alloc _⟩, hB1.alloc hB1.size _⟩ ⟨W.heap.size, bM1.lt, Blk.new W _ _, rfl⟩
  case body =>
    rintro lp pre x a' W hl ⟨r, hr⟩ ⟨⟨hM1, bM1⟩, hB1⟩ ⟨Bx, hBx, bX, rfl⟩ hlt
    have c0 := bX.cell 0
    have c1 := bX.cell 1
    simp at c0 c1
    have cM := bM1.cell
    obtain ⟨w3, hrun, ht3, hg3⟩ := hM1.put (hlen.out _ hlt) x.1.2.s x.2 x.1.1
    gi_wp2
    exact ⟨KeepsFrom.of_grownBy hg3 (fun j e => by cases e; omega), ⟨(Below.refl _ W).grown hg3 hB1.size (fun k e => by cases e; exact Nat.le_refl _), fun v t hb => hb.kept hg3 (by simp; omega)⟩,
      ⟨by rw [putsF_snoc, List.length_append]; exact ht3, bM1.kept hg3 (by simp)⟩, hB1.grown hg3 hB1.size (fun k e => by cases e; exact Nat.le_refl _)⟩
  case done =>
    rintro D ys W hD hBE ⟨⟨hM1, bM1⟩, hB1⟩ hK
    have cM := bM1.cell
    gi_wp2
    refine ⟨by simp, .inl ⟨_, _, rfl, run_takeDeferred hK, ?_⟩⟩
    refine ⟨_, results_tmp rfl _ _ _, rfl, ⟨_, (hM1.kept (grownBy_putObj' _ D _) (fun e => by cases e; omega)).congr (fun s => ?_)⟩, hB1.trans (belowK_b (w := w) (Nat.le_refl _) W D _ _ (by omega) hK rfl rfl)⟩
    rw [hBE.2, Nat.sub_self, fromE_zero]
  case stop =>
    rintro D c pre W _ _ h _
    exact h.elim
end Go.Proofs.Ytjmdinfdnjbcoaa
