/-
  A new chip.
-/
import Derived.Test.YtgkgbbffgcmekaaNorC
namespace Go.Proofs.Ytgkgbbffgcmekaa
open Go.RowKit
set_option linter.unusedVariables false
set_option maxRecDepth 100000

theorem infoInt8 : (Try.prog.info? 3).map (fun i => (i.zero, i.size, i.bytes)) = some (some (.int .i64 0), 1, 8) := by kernel_rfl
theorem made_bytes (n : Nat) : madeCells (Value.int .u8 0).cells n = (bv (List.replicate n 0)).toArray := by
  apply Array.ext'
  simp [madeCells, bv, Value.cells]
  apply List.ext_getElem
  · simp
  · intro i h1 h2
    simp [Nat.mod_one]
theorem made_ints (n : Nat) : madeCells (Value.int .i64 0).cells n = (iv .i64 (List.replicate n 0)).toArray := by
  apply Array.ext'
  simp [madeCells, iv, Value.cells]
  apply List.ext_getElem
  · simp
  · intro i h1 h2
    simp [Nat.mod_one]
theorem run_make_bytes (w : World) (n : Nat) (hn : n ≤ 65536) : (Instr.makeSlice 38 (.int .i64 n) (.int .i64 n)).run Try.prog w = .ok (.slice (some ⟨w.heap.size, 0, none⟩) n n) (w.alloc (.cells (bv (List.replicate n 0)).toArray 5)) := by
  obtain ⟨i0, hi, hz0, hz1, hz2⟩ := info_parts infoByte
  have := run_makeSlice (P := Try.prog) (w := w) 38 5 i0 (.int .u8 0) Try.underlying38 hi hz0 .i64 .i64 (n : Int) (n : Int) (by omega) (by omega) (by rw [hz1]; simp; omega) (by rw [hz2]; omega) (by omega)
  rw [hz1, made_bytes] at this
  simpa using this
theorem run_make_ints (w : World) (n : Nat) (hn : n ≤ 65536) : (Instr.makeSlice 43 (.int .i64 n) (.int .i64 n)).run Try.prog w = .ok (.slice (some ⟨w.heap.size, 0, none⟩) n n) (w.alloc (.cells (iv .i64 (List.replicate n 0)).toArray 3)) := by
  obtain ⟨i0, hi, hz0, hz1, hz2⟩ := info_parts infoInt8
  have := run_makeSlice (P := Try.prog) (w := w) 43 3 i0 (.int .i64 0) Try.underlying43 hi hz0 .i64 .i64 (n : Int) (n : Int) (by omega) (by omega) (by rw [hz1]; simp; omega) (by rw [hz2]; omega) (by omega)
  rw [hz1, made_ints] at this
  simpa using this

theorem five (w : World) (o1 o2 : Obj) (cs3 cs4 cs5 : Array Value) (t3 t4 t5 : TypeId) :
    Blk (((((w.alloc o1).alloc o2).alloc (.cells cs3 t3)).alloc (.cells cs4 t4)).alloc (.cells cs5 t5)) (w.heap.size + 1 + 1) cs3 t3 ∧
    Blk (((((w.alloc o1).alloc o2).alloc (.cells cs3 t3)).alloc (.cells cs4 t4)).alloc (.cells cs5 t5)) (w.heap.size + 1 + 1 + 1) cs4 t4 ∧
    Blk (((((w.alloc o1).alloc o2).alloc (.cells cs3 t3)).alloc (.cells cs4 t4)).alloc (.cells cs5 t5)) (w.heap.size + 1 + 1 + 1 + 1) cs5 t5 ∧
    Below w.heap.size w (((((w.alloc o1).alloc o2).alloc (.cells cs3 t3)).alloc (.cells cs4 t4)).alloc (.cells cs5 t5)) ∧
    (((((w.alloc o1).alloc o2).alloc (.cells cs3 t3)).alloc (.cells cs4 t4)).alloc (.cells cs5 t5)).heap.size = w.heap.size + 5 := by
  have n3 := Blk.new ((w.alloc o1).alloc o2) cs3 t3
  have n4 := Blk.new (((w.alloc o1).alloc o2).alloc (.cells cs3 t3)) cs4 t4
  have n5 := Blk.new ((((w.alloc o1).alloc o2).alloc (.cells cs3 t3)).alloc (.cells cs4 t4)) cs5 t5
  have k4 := n3.kept (World.grownBy_alloc _ (.cells cs4 t4) none) (by simp)
  have k5 := k4.kept (World.grownBy_alloc _ (.cells cs5 t5) none) (by simp)
  have l5 := n4.kept (World.grownBy_alloc _ (.cells cs5 t5) none) (by simp)
  refine ⟨by simpa using k5, by simpa using l5, by simpa using n5, ?_, by simp⟩
  exact (((((Below.refl _ _).alloc (Nat.le_refl _) _).alloc (by simp) _).alloc (by simp; omega) _).alloc (by simp; omega) _).alloc (by simp; omega) _
theorem list_ext {xs ys : List Int} (hl : xs.length = ys.length) (h : ∀ j, j < xs.length → xs.getD j 0 = ys.getD j 0) : xs = ys := by
  apply List.ext_getElem hl
  intro i h1 h2
  have := h i h1
  simpa [List.getD, List.getElem?_eq_getElem h1, List.getElem?_eq_getElem h2] using this
theorem fill_new (n : Nat) : fill (List.replicate n 0) 0 255 n = List.replicate n 255 := by
  refine list_ext (by simp [fill_length]) (fun j hj => ?_)
  rw [fill_length] at hj
  simp at hj
  rw [fill_at _ _ _ _ _ (by simp), if_pos (by omega)]
  simp [List.getD, hj]
  decide

/-- A new chip, of any power. -/
structure Made (t : TypeId) (w w' : World) (k bb eb A B : Nat) (c d e : Int) (po : Option Addr) : Prop where
  blk : Blk w' k #[.int .i64 A, .int .i64 B, .int .i64 c, .int .i64 d, .int .i64 e, .pointer po, .slice (some ⟨bb, 0, none⟩) (A * B) (A * B), .slice (some ⟨eb, 0, none⟩) A A] t
  byt : Blk w' bb (bv (List.replicate (A * B) 255)).toArray 5
  ers : Blk w' eb (iv .i64 (List.replicate A 0)).toArray 3
  lo : w.heap.size ≤ k ∧ w.heap.size ≤ bb ∧ w.heap.size ≤ eb
  ne : k ≠ bb ∧ k ≠ eb ∧ bb ≠ eb
  below : Below w.heap.size w w'
theorem rightS_of {a b c d e : Int} (h : rightS a b c d e = true) : a % 2 = 0 ∧ (2 ≤ a ∧ a ≤ 16) ∧ (256 ≤ b ∧ b ≤ 4096) ∧ (4 ≤ c ∧ c ≤ 64) ∧ (2 ≤ d ∧ d ≤ 32) ∧ (16 ≤ e ∧ e ≤ 256) := by
  simp only [rightS, Bool.and_eq_true, decide_eq_true_eq] at h
  exact h

set_option maxHeartbeats 1000000 in
theorem NewNor_right (w : World) (A B : Nat) (c d e : Int) (po : Option Addr) (hr : rightS A B c d e = true) :
    Calls Try.prog 10 #[.agg (gcells A B c d e), .pointer po] w fun x w' =>
      ∃ k bb eb, x = .returned (.tuple #[.pointer (some ⟨k, 0, none⟩), .int .i64 0]) ∧ Made 70 w w' k bb eb A B c d e po := by
  have hu := rightS_of hr
  have hA0 : 2 ≤ A ∧ A ≤ 16 := by omega
  have hB0 : 256 ≤ B ∧ B ≤ 4096 := by omega
  have hri := fun w => Right_any w A B c d e (wf_i64 (by omega) (by omega))
  rw [hr] at hri
  have hAB : 512 ≤ A * B ∧ A * B ≤ 65536 := ⟨Nat.mul_le_mul hA0.1 hB0.1, Nat.mul_le_mul hA0.2 hB0.2⟩
  have hm : ((A : Int) * (B : Int)) = ((A * B : Nat) : Int) := by simp
  have m1 := fun w => run_make_bytes w (A * B) (by omega)
  have m2 := fun w => run_make_ints w A (by omega)
  have hfl := fill_new (A * B)
  have hfin : ∀ (W W' : World) (k bb eb : Nat), Blk W k #[.int .i64 A, .int .i64 B, .int .i64 c, .int .i64 d, .int .i64 e, .pointer po, .slice (some ⟨bb, 0, none⟩) (A * B) (A * B), .slice (some ⟨eb, 0, none⟩) A A] 70 → Blk W eb (iv .i64 (List.replicate A 0)).toArray 3 →
      w.heap.size ≤ k → w.heap.size ≤ bb → w.heap.size ≤ eb → k ≠ bb → k ≠ eb → bb ≠ eb → Below w.heap.size w W → W.grownBy W' (some bb) → Blk W' bb (bv (fill (List.replicate (A * B) 0) 0 255 (A * B))).toArray 5 → Made 70 w W' k bb eb A B c d e po := by
    intro W W' k bb eb h1 h2 l1 l2 l3 n1 n2 n3 hb hg hx
    rw [hfl] at hx
    exact ⟨h1.kept hg (by simpa using n1), hx, h2.kept hg (by simpa using fun e => n3 e.symm), ⟨l1, l2, l3⟩, ⟨n1, n2, n3⟩, hb.grown hg hb.size (by simpa using l2)⟩
  have HFIN := hide hfin
  have HFL := hide hfl
  clear hfin hfl hu
  generalize hLL : A * B = len at *
  unfold gcells at *
  go_enter Try.func10, Try.ntmps10
  go_wp2_with fail
  refine (hri _).mono ?_
  rintro e w1 ⟨rfl, rfl⟩
  go_wp2_with fail
  go_region
  case' _ =>
    obtain ⟨b1, b2, b3, hB, hS⟩ := five w (.cells #[.int .i64 A, .int .i64 B, .int .i64 c, .int .i64 d, .int .i64 e] 23) (.cells #[.int .i64 A, .int .i64 B, .int .i64 c, .int .i64 d, .int .i64 e] 23) (bv (List.replicate len 0)).toArray (iv .i64 (List.replicate A 0)).toArray #[.int .i64 A, .int .i64 B, .int .i64 c, .int .i64 d, .int .i64 e, .pointer po, .slice (some ⟨w.heap.size + 1 + 1, 0, none⟩) len len, .slice (some ⟨w.heap.size + 1 + 1 + 1, 0, none⟩) A A] 5 3 70
    have d6 := b3.cell 6
    simp at d6
    go_wp2_with fail
    refine (setBits_any _ (w.heap.size + 1 + 1) 0 len len 255 (List.replicate len 0) (by exact b1) (by simp) (by omega)).mono ?_
    rintro e w3 ⟨rfl, hb3, hg3⟩
    have R := HFIN.out _ w3 (w.heap.size + 1 + 1 + 1 + 1) (w.heap.size + 1 + 1) (w.heap.size + 1 + 1 + 1) (by exact b3) (by exact b2) (by omega) (by omega) (by omega) (by omega) (by omega) (by omega) hB.drew hg3 hb3
    clear b1 b2 b3 hB hS hb3 hg3
    go_wp2
    go_ret2
    exact ⟨_, _, _, rfl, R⟩
  all_goals
    obtain ⟨b1, b2, b3, hB, hS⟩ := five w (.cells #[.int .i64 A, .int .i64 B, .int .i64 c, .int .i64 d, .int .i64 e] 23) (.cells #[.int .i64 A, .int .i64 B, .int .i64 c, .int .i64 d, .int .i64 e] 23) (iv .i64 (List.replicate A 0)).toArray (bv (List.replicate len 0)).toArray #[.int .i64 A, .int .i64 B, .int .i64 c, .int .i64 d, .int .i64 e, .pointer po, .slice (some ⟨w.heap.size + 1 + 1 + 1, 0, none⟩) len len, .slice (some ⟨w.heap.size + 1 + 1, 0, none⟩) A A] 3 5 70
    have d6 := b3.cell 6
    simp at d6
    go_wp2_with fail
    refine (setBits_any _ (w.heap.size + 1 + 1 + 1) 0 len len 255 (List.replicate len 0) (by exact b2) (by simp) (by omega)).mono ?_
    rintro e w3 ⟨rfl, hb3, hg3⟩
    have R := HFIN.out _ w3 (w.heap.size + 1 + 1 + 1 + 1) (w.heap.size + 1 + 1 + 1) (w.heap.size + 1 + 1) (by exact b3) (by exact b1) (by omega) (by omega) (by omega) (by omega) (by omega) (by omega) hB.drew hg3 hb3
    clear b1 b2 b3 hB hS hb3 hg3
    go_wp2
    go_ret2
    exact ⟨_, _, _, rfl, R⟩

theorem NewNor_wrong (w : World) (a b c d e : Int) (po : Option Addr) (ha : (Lit.int .i64 a).wf = true) (hr : rightS a b c d e = false) :
    Calls Try.prog 10 #[.agg (gcells a b c d e), .pointer po] w fun x w' => x = .returned (.tuple #[.pointer none, .int .i64 1]) ∧ Below w.heap.size w w' := by
  have hri := fun w => Right_any w a b c d e ha
  rw [hr] at hri
  unfold gcells at *
  go_enter Try.func10, Try.ntmps10
  go_wp2_with fail
  refine (hri _).mono ?_
  rintro e w1 ⟨rfl, rfl⟩
  go_wp2
  go_ret2
  exact ⟨rfl, ((Below.refl _ _).alloc (Nat.le_refl _) _).alloc (by simp) _⟩

theorem Geometry_any (base : Nat) (w : World) (L : Lay) (N : NSt) (h : Chip 70 base w L N) :
    Calls Try.prog 38 #[.pointer (some ⟨L.c, 0, none⟩)] w fun e w' => e = .returned (.agg (gcells N.A N.B N.c N.d N.e)) ∧ Below w.heap.size w w' := by
  have hlt := h.blk.lt
  have c0 := h.blk.cell 0
  have c1 := h.blk.cell 1
  have c2 := h.blk.cell 2
  have c3 := h.blk.cell 3
  have c4 := h.blk.cell 4
  simp [ccells] at c0 c1 c2 c3 c4
  unfold gcells
  go_enter Try.func38, Try.ntmps38
  go_wp2
  refine bodyPost_ret (results_cell_row rfl _ _ w.heap.size 23 _ (0, 0) _ rfl (Blk.new w _ _) Try.underlying23 rfl (by kernel_rfl)) rfl ⟨rfl, ?_⟩
  exact (Below.refl _ _).alloc (Nat.le_refl _) _
theorem still_tail_drew {P : Program} {id : Nat} {Q : Exit → Act → World → Prop} {a : Act} {w : World} {l : List Oper} (n : Nat) (hm : P.follows .mixedOrders = true) (hB : Region.lexTailB .any l.toArray n = true)
    (h : wpStill P l.toArray w.drew (fun a' => wpList P l.toArray Q (l.drop n) a' w.drew) (l.take n) a) : (Code.region id l.toArray true).wp P Q a w := wp_region_still_tail n hm hB h

theorem i64_in (x : Int) (h : -9223372036854775808 ≤ x ∧ x < 9223372036854775808) : IntKind.i64.wrap x = x := by
  rw [IntKind.wrap_i64]; omega
theorem two_new (w : World) (o : Obj) (cs : Array Value) (t : TypeId) : Blk ((w.alloc o).alloc (.cells cs t)) (w.heap.size + 1) cs t := by
  have := Blk.new (w.alloc o) cs t
  simpa using this

theorem mod_any (w : World) (v : Int) (n k : Nat) (hn : 0 < n) (hn2 : n ≤ 1000) (hk : wrap64 ((IntKind.u64.wrap v).tmod (n : Int)) = (k : Int)) : Calls Try.prog 31 #[.int .i64 v, .int .i64 n] w fun e w' => e = .returned (.int .i64 k) ∧ w' = w := by
  have h0 : ((n : Int) == 0) = false := by simp; omega
  have h1 : IntKind.u64.wrap (n : Int) = n := by rw [IntKind.wrap_u64]; omega
  go_enter Try.func31, Try.ntmps31
  go_wp2
  go_ret
  exact ⟨ret_one (by simp [hk]), rfl⟩

set_option maxHeartbeats 1000000 in
theorem play_full (w : World) (a b c d e : Int) :
    Calls Try.prog 7 #[.agg (gcells a b c d e)] w fun x w' => ∃ (A B : Nat) (c' d' e' : Int), x = .returned (.agg (gcells A B c' d' e')) ∧ rightS A B c' d' e' = true ∧ (a = 0 → A = 2) ∧ (b = 0 → B = 256) ∧ Below w.heap.size w w' := by
  obtain ⟨k0, l0, q0⟩ := cut_n a 3 (by omega) (by omega)
  obtain ⟨k1, l1, q1⟩ := cut_n b 12 (by omega) (by omega)
  obtain ⟨k2, l2, q2⟩ := cut_n c 5 (by omega) (by omega)
  obtain ⟨k3, l3, q3⟩ := cut_n d 5 (by omega) (by omega)
  obtain ⟨k4, l4, q4⟩ := cut_n e 6 (by omega) (by omega)
  have p0 := fun w => mod_any w a 3 k0 (by omega) (by omega) q0
  have p1 := fun w => mod_any w b 12 k1 (by omega) (by omega) q1
  have p2 := fun w => mod_any w c 5 k2 (by omega) (by omega) q2
  have p3 := fun w => mod_any w d 5 k3 (by omega) (by omega) q3
  have p4 := fun w => mod_any w e 6 k4 (by omega) (by omega) q4
  rw [show ((3 : Nat) : Int) = 3 from rfl] at p0
  rw [show ((12 : Nat) : Int) = 12 from rfl] at p1
  rw [show ((5 : Nat) : Int) = 5 from rfl] at p2 p3
  rw [show ((6 : Nat) : Int) = 6 from rfl] at p4
  have y0 : a = 0 → (2 + 2 * k0 : Nat) = 2 := by
    intro ha
    rw [ha, show wrap64 ((IntKind.u64.wrap 0).tmod ((3 : Nat) : Int)) = 0 from by decide +kernel] at q0
    omega
  have y1 : b = 0 → (256 + 64 * k1 : Nat) = 256 := by
    intro hb
    rw [hb, show wrap64 ((IntKind.u64.wrap 0).tmod ((12 : Nat) : Int)) = 0 from by decide +kernel] at q1
    omega
  have z0 := hide y0
  have z1 := hide y1
  clear y0 y1
  clear q0 q1 q2 q3 q4
  have hr : rightS ((2 + 2 * k0 : Nat) : Int) ((256 + 64 * k1 : Nat) : Int) (4 + k2) (2 + k3) (16 + 4 * k4) = true := by
    simp only [rightS, Bool.and_eq_true, decide_eq_true_eq]
    omega
  have HR := hide hr
  clear hr
  unfold gcells
  go_enter Try.func7, Try.ntmps7
  go_wp2_with fail
  refine still_tail_drew 24 (by kernel_rfl) (by kernel_rfl) ?_
  simp only [List.take_succ_cons, List.take_zero, List.drop_succ_cons, List.drop_zero]
  repeat still_step
  still_call (p0 _)
  repeat still_step
  still_call (p1 _)
  repeat still_step
  still_call (p2 _)
  repeat still_step
  still_call (p3 _)
  repeat still_step
  still_call (p4 _)
  repeat still_step
  refine wpStill_nil ?_
  go_wp2
  have e0 : IntKind.i64.wrap (2 + IntKind.i64.wrap (2 * (k0 : Int))) = ((2 + 2 * k0 : Nat) : Int) := by rw [i64_in (2 * (k0 : Int)) (by omega), i64_in _ (by omega)]; simp
  have e1 : IntKind.i64.wrap (256 + IntKind.i64.wrap (64 * (k1 : Int))) = ((256 + 64 * k1 : Nat) : Int) := by rw [i64_in (64 * (k1 : Int)) (by omega), i64_in _ (by omega)]; simp
  have e2 : IntKind.i64.wrap (4 + (k2 : Int)) = 4 + k2 := i64_in _ (by omega)
  have e3 : IntKind.i64.wrap (2 + (k3 : Int)) = 2 + k3 := i64_in _ (by omega)
  have e4 : IntKind.i64.wrap (16 + IntKind.i64.wrap (4 * (k4 : Int))) = 16 + 4 * k4 := by rw [i64_in (4 * (k4 : Int)) (by omega), i64_in _ (by omega)]
  rw [e0, e1, e2, e3, e4]
  refine bodyPost_ret (results_cell_row rfl _ _ (w.heap.size + 1) 23 _ (0, 0) _ rfl (by exact two_new _ _ _ _) Try.underlying23 rfl (by kernel_rfl)) rfl ⟨_, _, _, _, _, rfl, HR.out, z0.out, z1.out, ?_⟩
  exact (((Below.refl _ _).alloc (Nat.le_refl _) _).alloc (by simp) _).drew
theorem play_any (w : World) (a b c d e : Int) :
    Calls Try.prog 7 #[.agg (gcells a b c d e)] w fun x w' => ∃ (A B : Nat) (c' d' e' : Int), x = .returned (.agg (gcells A B c' d' e')) ∧ rightS A B c' d' e' = true ∧ Below w.heap.size w w' := by
  refine (play_full w a b c d e).mono ?_
  rintro x w' ⟨A, B, c', d', e', h1, h2, _, _, h3⟩
  exact ⟨A, B, c', d', e', h1, h2, h3⟩
end Go.Proofs.Ytgkgbbffgcmekaa
