/-
  The contracts of package runs: Pages, slices.Clone.
-/
import Derived.Test.YtdjpnoolbpnpiaaRunsC
import Derived.Test.YtdjpnoolbpnpiaaInts
import Derived.Lib.AppendStr
namespace Go.Proofs.Ytdjpnoolbpnpiaa
open Go.RowKit
set_option linter.unusedVariables false
set_option maxRecDepth 100000

theorem infoInt9 : (Try.prog.info? 3).map (fun i => (i.zero, i.size, i.bytes)) = some (some (.int .i64 0), 1, 8) := by kernel_rfl
theorem irow_new1 (w : World) (x : Int) (hx : (Lit.int .i64 x).wf = true) (t : TypeId) : IRow .i64 (w.alloc (.cells #[.int .i64 x] t)) (.slice (some ⟨w.heap.size, 0, none⟩) 1 1) [x] := by
  refine IRow.mk (xs := [x]) (off := 0) (by simp) (by unfold maxLen; simp) ?_ ?_
  · intro i hi
    match i, hi with
    | 0, _ => exact (Blk.new w #[.int .i64 x] t).cell 0
  · intro z hz
    simp at hz
    subst hz
    exact hx
theorem IOwn.grown_below {k : IntKind} {e : TypeId} {base B : Nat} {w0 w w' : World} {v : Value} {xs : List Int} (h : IOwn k e base w v xs) (hb : Below B w0 w) (hg : w.grownBy w' v.ownBlock) (hB : B ≤ base) (hs : B ≤ w.heap.size) : Below B w0 w' :=
  hb.grown hg hs (fun k e => Nat.le_trans hB (h.block k e).1)

theorem IOwn.ne_blk {k : IntKind} {e t : TypeId} {base c : Nat} {w : World} {q : Value} {ys : List Int} {cs : Array Value} (h : IOwn k e base w q ys) (hb : Blk w c cs t) (hte : e ≠ t) : some c ≠ q.ownBlock := by
  intro he
  rcases h.1.2 with ⟨hn, _⟩ | ⟨g', cap', cur', hv', _, hh', _⟩
  · rw [hn] at he; cases he
  · rw [hv'] at he
    have e2 : c = g' := by simpa [Value.ownBlock] using he
    rw [← e2, show w.heap[c]? = _ from hb] at hh'
    simp at hh'
    exact hte hh'.2.symm

set_option maxHeartbeats 4000000 in
theorem Pages_any (w : World) (v : Value) (l : List Rn) (h : RRow w v l) : Calls Try.prog 11 #[v] w fun e w' => ∃ u, e = .returned u ∧ IOwn .i64 3 w.heap.size w' u (if rightS l then pgsS l else []) ∧ Below w.heap.size w w' := by
  have hri := Right_any w v l h
  have HR := hide h
  cases hrt : rightS l with
  | false =>
    rw [hrt] at hri
    clear h hrt
    go_enter Try.func11, Try.ntmps11
    go_wp2_with fail
    refine hri.mono ?_
    rintro e w1 ⟨rfl, hb1⟩
    go_wp2
    go_ret
    exact ⟨_, rfl, IOwn.nil _ _ _ _, hb1⟩
  | true =>
    rw [hrt] at hri
    have hlr := h.lenRun
    have HT := hide hrt
    have hlb := len_bound hrt
    obtain ⟨len, hL⟩ : ∃ n, l.length = n := ⟨_, rfl⟩
    have HL := hide hL
    rw [hL] at hlb
    simp only [hL] at hlr
    clear hL h hrt
    go_enter Try.func11, Try.ntmps11
    go_wp2_with fail
    refine hri.mono ?_
    rintro e w1 ⟨rfl, hb1⟩
    go_wp2
    go_loopw [3, 12] (fun s i wr => ∃ k : Nat, k ≤ len ∧ i = .int .i64 k ∧ IOwn .i64 3 w.heap.size wr s (pgsS (l.take k)) ∧ Below w.heap.size w wr) (fun _ i _ => len - (intOf i).toNat)
    case atStart => exact ⟨0, Nat.zero_le _, rfl, IOwn.nil _ _ _ _, hb1⟩
    case round =>
      obtain ⟨k, hk, rfl, hown, hbk⟩ := hrel
      by_cases hlt : k < len
      · have hlt' : (k : Int) < len := by omega
        have hkl : k < l.length := by rw [HL.out]; exact hlt
        obtain ⟨b, o, hbs, hix, c0, c1, c2⟩ := (HR.out.below hbk).idx k hkl
        have hmore := pgs_more hkl
        have hw := within_iff.1 (within_at (l := l) (i := k) (k := k + 1) (right_take HT.out _) (by omega) (by omega))
        have hpl : (pgsS (l.take k)).length ≤ 64 := by
          have h1 := pgs_len (right_take HT.out k)
          have h2 := cnt_bound (right_take HT.out k)
          omega
        generalize hr : l.getD k default = r at *
        obtain ⟨f, a, n⟩ := r
        simp only at c0 c1 c2 hmore hw
        obtain ⟨N, rfl⟩ : ∃ N : Nat, n = (N : Int) := ⟨n.toNat, by omega⟩
        rw [Int.toNat_natCast] at hmore
        have HMO := hide hmore
        obtain ⟨xs, hxs⟩ : ∃ s, pgsS (l.take k) = s := ⟨_, rfl⟩
        rw [hxs] at hown hpl HMO
        have hB1 : Below w.heap.size w (wr.alloc (.cells #[.int .i64 f, .int .i64 a, .int .i64 N] 39)) := hbk.alloc hbk.size _
        have hBl := Blk.new wr #[.int .i64 f, .int .i64 a, .int .i64 N] 39
        have e1 : (wr.alloc (.cells #[.int .i64 f, .int .i64 a, .int .i64 N] 39)).cell? ⟨wr.heap.size, 1, none⟩ = some (.int .i64 a) := hBl.cell 1
        have e2 : (wr.alloc (.cells #[.int .i64 f, .int .i64 a, .int .i64 N] 39)).cell? ⟨wr.heap.size, 2, none⟩ = some (.int .i64 N) := hBl.cell 2
        have hO1 := hown.alloc (.cells #[.int .i64 f, .int .i64 a, .int .i64 N] 39)
        have hcs : w.heap.size ≤ wr.heap.size := hbk.size
        have hcl : wr.heap.size < (wr.alloc (.cells #[.int .i64 f, .int .i64 a, .int .i64 N] 39)).heap.size := hBl.lt
        have HO := hide hO1
        have HBl := hide hBl
        clear hmore hr hxs hbk hown hO1 hBl hbs
        go_wp2_with fail
        generalize wr.alloc (.cells #[.int .i64 f, .int .i64 a, .int .i64 N] 39) = W at *
        generalize wr.heap.size = c at *
        clear hix c0 c1 c2
        go_loopw [3, 18] (fun s i wr => ∃ j : Nat, j ≤ N ∧ i = .int .i64 j ∧ IOwn .i64 3 w.heap.size wr s (xs ++ (List.range j).map fun j : Nat => a + (j : Int)) ∧ Below w.heap.size w wr ∧ Blk wr c #[.int .i64 f, .int .i64 a, .int .i64 N] 39) (fun _ i _ => N - (intOf i).toNat)
        case atStart => exact ⟨0, Nat.zero_le _, rfl, by simpa using HO.out, hB1, HBl.out⟩
        case round =>
          obtain ⟨j, hj, rfl, hown, hbj, hblj⟩ := hrel
          by_cases hjl : j < N
          · have hjl' : (j : Int) < N := by omega
            have d1 := (hblj.cell 1).trans rfl
            have hx : (Lit.int .i64 (a + (j : Int))).wf = true := wf_i64 (by omega) (by omega)
            obtain ⟨ys, hys⟩ : ∃ s, xs ++ (List.range j).map (fun j : Nat => a + (j : Int)) = s := ⟨_, rfl⟩
            have hyl : ys.length ≤ 128 := by rw [← hys]; simp; omega
            have HY := hide hys
            rw [hys] at hown
            have HOj := hide hown
            have HBj := hide hbj
            have HBlj := hide hblj
            have hsz := hbj.size
            have hB2 : Below w.heap.size w (wr.alloc (.cells #[.int .i64 (a + (j : Int))] 3)) := hbj.alloc hsz _
            have hbl2 := hblj.kept (World.grownBy_alloc wr (.cells #[.int .i64 (a + (j : Int))] 3) none) (by simp)
            clear hown hbj hblj hys
            go_wp2_with (at_builtin; refine wpList_append_ints rfl _ _ 24 3 .i64 8 Try.underlying24 infoInt9 rfl w.heap.size _ _ ys [a + (j : Int)] rfl (HOj.out.alloc _) rfl (irow_new1 _ _ hx _) (by simp; omega) (by unfold maxLen; simp; omega) (by simp; omega) ?_)
            intro v3 w3 hv3 hg3
            have hB3 : Below w.heap.size w w3 := (HOj.out.alloc _).grown_below hB2 hg3 (Nat.le_refl _) hB2.size
            have hbl3 := hbl2.kept hg3 ((HOj.out.alloc _).ne_blk hbl2 (by decide))
            have HV := hide hv3
            clear hv3 hg3 hbl2 hB2
            go_wp2
            exact ⟨⟨j + 1, by omega, by go_num, by rw [List.range_succ, List.map_append, ← List.append_assoc, HY.out]; exact HV.out, hB3, hbl3⟩, by simp [intOf]; omega⟩
          · obtain rfl : j = N := by omega
            have HOj := hide hown
            clear hown
            go_wp2
            exact ⟨⟨k + 1, by omega, by go_num, by rw [HMO.out]; exact HOj.out, hbj⟩, by simp [intOf]; omega⟩
      · obtain rfl : k = len := by omega
        rw [List.take_of_length_le (by rw [HL.out]; exact Nat.le_refl _)] at hown
        have HO := hide hown
        clear hown
        go_wp2
        go_ret
        exact ⟨_, rfl, HO.out, hbk⟩

/-! ### slices.Clone -/
theorem eqNil9 (w : World) (a : Option Addr) (n c : Nat) : (binOp .eql 23 (.slice a n c) (.slice none 0 0)).run Try.prog w = .ok (.bool a.isNone) w := Lib.run_eql_slice_nil w _ _ a n c 0 0 Try.underlying23
theorem rown_empty (w : World) : ROwn w.heap.size (w.alloc (.cells #[] 39)) (.slice (some ⟨w.heap.size, 0, none⟩) 0 0) [] :=
  ⟨⟨rfl, .inr ⟨w.heap.size, 0, #[], rfl, Nat.le_refl _, Blk.new w #[] 39, Nat.le_refl _, Nat.zero_le _, rfl, rfl⟩⟩, fun r h => by cases h⟩
set_option maxHeartbeats 1000000 in
theorem CloneR_any (w : World) (v : Value) (l : List Rn) (h : RRow w v l) (hn : l.length ≤ 1000000) :
    Calls Try.prog 19 #[v] w fun e w' => ∃ u, e = .returned u ∧ ROwn w.heap.size w' u l ∧ Below w.heap.size w w' := by
  obtain ⟨ao, cap, rfl⟩ := h.of_len
  have h1 := eqNil9 w ao l.length cap
  have hb : Below w.heap.size w (w.alloc (.cells #[] 39)) := (Below.refl _ _).alloc (Nat.le_refl _) _
  have HR := hide (h.below hb)
  cases ao with
  | none =>
    have h0 : l = [] := by
      obtain ⟨⟨ao, c2, hv, g1, g2, g3, _⟩, _⟩ := h
      simp at hv
      have := g3 hv.1.symm
      exact List.eq_nil_of_length_eq_zero (by omega)
    subst h0
    simp at h1
    clear h HR hn
    simp only [List.length_nil]
    go_enter Try.func19, Try.ntmps19
    go_wp2
    go_ret
    exact ⟨_, rfl, ROwn.nil _ _, Below.refl _ _⟩
  | some ad =>
    simp at h1
    have HF := hide (show ([] : List Rn).length + l.length ≤ 1000000000000 by simp; omega)
    clear h hn
    generalize l.length = len at h1 HR ⊢
    go_enter Try.func19, Try.ntmps19
    go_wp2_with (at_builtin; refine wpList_append_runs rfl _ _ rfl w.heap.size _ _ [] l rfl (rown_empty w) rfl HR.out HF.out (by simp) ?_)
    intro v' w' hown hg
    have hB : Below w.heap.size w w' := hb.grown hg (by simp) (fun k e => by cases e; exact Nat.le_refl _)
    try rw [List.nil_append] at hown
    have HO := hide hown
    clear hown hg
    go_wp2
    go_ret
    exact ⟨_, rfl, HO.out, hB⟩
end Go.Proofs.Ytdjpnoolbpnpiaa
