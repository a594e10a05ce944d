/-
  The program's pack: numbers, texts, counts behind a row that the caller owns.
-/
import Derived.Test.YtgkmgpjhpplkiaaPackP
import Derived.Test.YtgkmgpjhpplkiaaRowI
import Derived.Test.YtgkmgpjhpplkiaaMem2
import Derived.Test.YtgkmgpjhpplkiaaHoldL
namespace Go.Proofs.Ytgkmgpjhpplkiaa
open Go.RowKit
set_option linter.unusedVariables false
set_option maxRecDepth 100000

/-- Nothing has turned but bytes from base on. -/
structure Kp (base : Nat) (w w' : World) : Prop where
  os : w'.os = w.os
  tape : w'.tape = w.tape
  output : w'.output = w.output
  size : w.heap.size ≤ w'.heap.size
  old : ∀ k, k < base → k < w.heap.size → w'.heap[k]? = w.heap[k]?
  ty : ∀ (k : Nat) (cs : Array Value) (t : TypeId) (fr : Nat × Nat), w.heap[k]? = some (Obj.cells cs t fr) → t ≠ 5 → w'.heap[k]? = w.heap[k]?
theorem Kp.refl (base : Nat) (w : World) : Kp base w w := ⟨rfl, rfl, rfl, Nat.le_refl _, fun _ _ _ => rfl, fun _ _ _ _ _ _ => rfl⟩
theorem Kp.trans {base : Nat} {a b c : World} (h : Kp base a b) (k : Kp base b c) : Kp base a c :=
  ⟨k.os.trans h.os, k.tape.trans h.tape, k.output.trans h.output, Nat.le_trans h.size k.size, fun i hi hs => (k.old i hi (Nat.lt_of_lt_of_le hs h.size)).trans (h.old i hi hs),
    fun i cs t fr hh ht => (k.ty i cs t fr ((h.ty i cs t fr hh ht).trans hh) ht).trans (h.ty i cs t fr hh ht)⟩
theorem Kp.of_below {base : Nat} {w w' : World} (h : Below w.heap.size w w') : Kp base w w' :=
  ⟨h.os, h.tape, h.output, h.size, fun k _ hk => h.block k hk, fun k cs t fr hh _ => h.block k (Array.getElem?_eq_some_iff.1 hh).1⟩
theorem Kp.alloc {base : Nat} {w w' : World} (h : Kp base w w') (o : Obj) : Kp base w (w'.alloc o) := h.trans (.of_below (kl_alloc _ _))
theorem Kp.drew {base : Nat} {w w' : World} (h : Kp base w w') : Kp base w w'.drew := h.trans (.of_below (kl_drew _))
theorem Kp.of_own {base : Nat} {w w' : World} {b : Value} {xs : List Int} (h : Own base w b xs) (hg : w.grownBy w' b.ownBlock) : Kp base w w' := by
  refine ⟨hg.os, hg.tape, hg.output, hg.size, fun k hk hs => hg.block k hs (fun e => ?_), fun k cs t fr hh ht => hg.block k (Array.getElem?_eq_some_iff.1 hh).1 (fun e => ?_)⟩
  · have := (h.block k e.symm).1; omega
  · rcases h.1.2 with ⟨hn, _⟩ | ⟨g, cap, cur, hv, hbg, hg', _⟩
    · rw [hn] at e; cases e
    · rw [hv] at e
      have e' : k = g := by simpa [Value.ownBlock] using e
      rw [e', hg'] at hh
      simp only [Option.some.injEq, Obj.cells.injEq] at hh
      exact ht hh.2.1.symm
theorem Kp.below {base B : Nat} {w w' : World} (h : Kp base w w') (hB : B ≤ base) (hs : B ≤ w.heap.size) : Below B w w' :=
  ⟨h.os, h.tape, h.output, h.size, fun k hk => h.old k (by omega) (by omega)⟩
theorem Kp.blk {base g : Nat} {w w' : World} {cs : Array Value} {t : TypeId} (h : Kp base w w') (hB : Blk w g cs t) (ht : t ≠ 5) : Blk w' g cs t := (h.ty g cs t (0, 0) hB ht).trans hB

/-- The row b, which the caller owns, has become xs. -/
def Pk (w : World) (base : Nat) (xs : List Int) (e : Ending) (w' : World) : Prop := ∃ u, e = .returned u ∧ Own base w' u xs ∧ Kp base w w'
theorem irow_blk {w : World} {g : Nat} {vs : List Int} (h : Blk w g (iv .i64 vs).toArray 3) (hw : ∀ n ∈ vs, (Lit.int .i64 n).wf = true) (hl : vs.length ≤ 1000) : IRow .i64 w (.slice (some ⟨g, 0, none⟩) vs.length vs.length) vs := by
  refine ⟨_, _, rfl, Nat.le_refl _, by unfold maxLen; omega, by simp, ?_, hw⟩
  intro a ha i hi
  obtain rfl := Option.some.inj ha
  rw [Addr.add_lit, Nat.zero_add, h.cell i]
  simpa using iv_at (k := .i64) hi
theorem n8s_take {vs : List Int} {k : Nat} (h : k < vs.length) : (vs.take (k + 1)).flatMap n8 = (vs.take k).flatMap n8 ++ n8 (vs.getD k 0) := by
  rw [List.take_succ_eq_append_getElem h, List.flatMap_append]
  simp [List.getD, List.getElem?_eq_getElem h]
theorem n8s_length (vs : List Int) : (vs.flatMap n8).length = 8 * vs.length := by
  induction vs with
  | nil => rfl
  | cons a t ih => rw [List.flatMap_cons, List.length_append, n8_length, ih, List.length_cons]; omega

set_option maxHeartbeats 2000000 in
theorem putNumbers_any (w : World) (base : Nat) (b lv : Value) (xs vs : List Int) (h : Own base w b xs) (hb : base ≤ w.heap.size) (hl : ∀ w', Kp base w w' → IRow .i64 w' lv vs) (hn : xs.length ≤ 2000000) (hv : vs.length ≤ 100) :
    Calls Try.prog 24 #[b, lv] w (Pk w base (xs ++ vs.flatMap n8)) := by
  have hl0 := hl w (Kp.refl _ _)
  have hlen := hl0.lenI
  have HWF := hide (fun k (hk : k < vs.length) => (show (Lit.int .i64 (vs.getD k 0)).wf = true by
    obtain ⟨_, _, _, _, _, _, _, h5⟩ := hl0
    exact h5 _ (by rw [List.getD, List.getElem?_eq_getElem hk]; exact List.getElem_mem hk)))
  have HLR := hide hl
  have H := hide h
  have HB := hide hb
  have HN := hide hn
  clear h hb hl hl0
  obtain ⟨len, hL⟩ : ∃ n, vs.length = n := ⟨_, rfl⟩
  have HL := hide hL
  simp only [hL] at hlen hv
  clear hL hn
  go_enter Try.func24, Try.ntmps24
  go_wp2
  go_loopw [0, 9] (fun u i wr => ∃ k : Nat, k ≤ len ∧ i = .int .i64 k ∧ Hid (Own base wr u (xs ++ (vs.take k).flatMap n8)) ∧ Hid (Kp base w wr)) (fun _ i _ => len - (intOf i).toNat)
  case atStart => exact ⟨0, Nat.zero_le _, rfl, hide (by simpa using H.out), hide (Kp.refl _ _)⟩
  case round =>
    obtain ⟨k, hk, rfl, HO, HG⟩ := hrel
    by_cases hlt : k < len
    · have hlt' : (k : Int) < len := by omega
      have hkx : k < vs.length := by rw [HL.out]; exact hlt
      obtain ⟨q, o, hbs, hidx, hc⟩ := (HLR.out wr HG.out).idxI k hkx
      have hsum := n8s_take hkx
      have hwf := HWF.out k hkx
      have hll := n8s_length (vs.take k)
      rw [List.length_take] at hll
      have HF := hide (show (xs ++ (vs.take k).flatMap n8).length ≤ 3000000 by rw [List.length_append, hll]; have := HN.out; omega)
      have HS := hide (show xs ++ (vs.take (k + 1)).flatMap n8 = (xs ++ (vs.take k).flatMap n8) ++ n8 (vs.getD k 0) by rw [hsum, List.append_assoc])
      generalize vs.getD k 0 = v at *
      generalize xs ++ (vs.take k).flatMap n8 = ys at *
      clear hsum hll
      go_wp2_with fail
      refine (PutInt_any wr (.slice none 0 0) [] v (Row.nil _) (by simp) hwf).mono ?_
      rintro e w1 ⟨y, rfl, ho1, hb1⟩
      have HO1 := hide (HO.out.kept hb1)
      have HG1 := hide (HG.out.trans (.of_below hb1))
      have HR1 := hide ho1.row
      have HB1 := hide (Nat.le_trans HB.out HG1.out.size)
      have HF1 := hide (show ys.length + ([] ++ low (v % 18446744073709551616) 8).length ≤ 140737488355328 by have := HF.out; rw [List.nil_append, low_length]; omega)
      clear ho1 hb1 HO HG
      go_wp2_with (at_builtin; refine wpList_append_row rfl _ _ rfl base _ _ _ _ rfl HO1.out rfl HR1.out HF1.out HB1.out ?_)
      intro u1 w2 ho2 hg2
      have HG2 := hide (HG1.out.trans (.of_own HO1.out hg2))
      have HO2 := hide ho2
      clear ho2 hg2
      go_wp2
      exact ⟨⟨k + 1, by omega, by go_num, hide (by rw [HS.out]; exact HO2.out), HG2⟩, by simp [intOf]; omega⟩
    · obtain rfl : k = len := by omega
      have HE := hide (show vs.take k = vs by rw [List.take_of_length_le (by rw [HL.out]; exact Nat.le_refl _)])
      rw [HE.out] at HO
      go_wp2
      go_ret
      exact ⟨_, rfl, HO.out, HG.out⟩

set_option maxHeartbeats 2000000 in
theorem putText_any (w : World) (base : Nat) (b : Value) (xs : List Int) (s : ByteArray) (h : Own base w b xs) (hb : base ≤ w.heap.size) (hn : xs.length ≤ 2000000) (hs : s.size ≤ 2000000) :
    Calls Try.prog 39 #[b, .string s] w (Pk w base (xs ++ packT s)) := by
  have H := hide h
  have HB := hide hb
  have HN := hide (And.intro hn hs)
  clear h hb hn hs
  go_enter Try.func39, Try.ntmps39
  go_wp2_with fail
  refine (PutText_any w (.slice none 0 0) [] s (Row.nil _) (by have := HN.out; simp; omega)).mono ?_
  rintro e w1 ⟨y, rfl, ho1, hb1⟩
  have HO1 := hide (H.out.kept hb1)
  have HG1 := hide (Kp.of_below (base := base) hb1)
  have HR1 := hide ho1.row
  have HB1 := hide (Nat.le_trans HB.out HG1.out.size)
  have HF1 := hide (show xs.length + ([] ++ (low s.size 4 ++ bytesIn s)).length ≤ 140737488355328 by have := HN.out; rw [List.nil_append, List.length_append, low_length, bytesIn_length]; omega)
  clear ho1 hb1 H
  go_wp2_with (at_builtin; refine wpList_append_row rfl _ _ rfl base _ _ _ _ rfl HO1.out rfl HR1.out HF1.out HB1.out ?_)
  intro u1 w2 ho2 hg2
  have HG2 := hide (HG1.out.trans (.of_own HO1.out hg2))
  go_wp2
  go_ret
  exact ⟨_, rfl, ho2, HG2.out⟩

set_option maxHeartbeats 2000000 in
theorem putCount_any (w : World) (base : Nat) (b : Value) (xs : List Int) (n : Nat) (h : Own base w b xs) (hb : base ≤ w.heap.size) (hn : xs.length ≤ 2000000) (hs : n ≤ 1000000000000) :
    Calls Try.prog 40 #[b, .int .i64 n] w (Pk w base (xs ++ n4 n)) := by
  have H := hide h
  have HB := hide hb
  have HN := hide (And.intro hn hs)
  have hwr : IntKind.u64.wrap (n : Int) = n := u64_in _ (by omega)
  have HW := hide hwr
  clear h hb hn hs hwr
  go_enter Try.func40, Try.ntmps40
  go_wp2_with fail
  (try rw [HW.out])
  refine (Put_any w (.slice none 0 0) [] n 4 (Row.nil _) (by simp) (by omega) (by have := HN.out; omega)).mono ?_
  rintro e w1 ⟨y, rfl, ho1, hb1⟩
  have HO1 := hide (H.out.kept hb1)
  have HG1 := hide (Kp.of_below (base := base) hb1)
  have HR1 := hide ho1.row
  have HB1 := hide (Nat.le_trans HB.out HG1.out.size)
  have HF1 := hide (show xs.length + ([] ++ low (n : Int) (held 4)).length ≤ 140737488355328 by have := HN.out; have := held_le 4; rw [List.nil_append, low_length]; omega)
  clear ho1 hb1 H
  go_wp2_with (at_builtin; refine wpList_append_row rfl _ _ rfl base _ _ _ _ rfl HO1.out rfl HR1.out HF1.out HB1.out ?_)
  intro u1 w2 ho2 hg2
  have HG2 := hide (HG1.out.trans (.of_own HO1.out hg2))
  go_wp2
  go_ret
  exact ⟨_, rfl, ho2, HG2.out⟩
end Go.Proofs.Ytgkmgpjhpplkiaa
