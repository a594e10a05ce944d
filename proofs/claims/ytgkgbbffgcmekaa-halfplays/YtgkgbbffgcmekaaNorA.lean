/-
  The contracts of package nor.
-/
import Derived.Test.YtgkgbbffgcmekaaNorP
import Derived.BigQuiet
import Derived.Deep.QuietTactic
import Derived.Deep.RegionHeld3
import Derived.Laws.CopyOwn
import Derived.Lib.SliceRun
namespace Go.Proofs.Ytgkgbbffgcmekaa
open Go.RowKit
set_option linter.unusedVariables false

structure Lay where
  c : Nat
  pb : Nat
  bb : Nat
  eb : Nat
def ccells (N : NSt) (L : Lay) : Array Value :=
  #[.int .i64 N.A, .int .i64 N.B, .int .i64 N.c, .int .i64 N.d, .int .i64 N.e, .pointer (some ⟨L.pb, 0, none⟩), .slice (some ⟨L.bb, 0, none⟩) (N.A * N.B) (N.A * N.B), .slice (some ⟨L.eb, 0, none⟩) N.A N.A]
/-- A chip, its bytes and its counts (t: whose). -/
structure Chip (t : TypeId) (base : Nat) (w : World) (L : Lay) (N : NSt) : Prop where
  blk : Blk w L.c (ccells N L) t
  byt : Blk w L.bb (bv N.bs).toArray 5
  ers : Blk w L.eb (iv .i64 N.er).toArray 3
  lt : L.c < base ∧ L.pb < base ∧ L.bb < base ∧ L.eb < base
  ne : L.c ≠ L.pb ∧ L.c ≠ L.bb ∧ L.c ≠ L.eb ∧ L.pb ≠ L.bb ∧ L.pb ≠ L.eb ∧ L.bb ≠ L.eb
section
variable {t : TypeId} {base : Nat} {w w' : World} {L : Lay} {N : NSt}
theorem Chip.only {l : List Nat} (h : Chip t base w L N) (hg : Only l w w') (h1 : L.c ∉ l) (h2 : L.bb ∉ l) (h3 : L.eb ∉ l) : Chip t base w' L N :=
  ⟨h.blk.only hg h1, h.byt.only hg h2, h.ers.only hg h3, h.lt, h.ne⟩
theorem Chip.byte (h : Chip t base w L N) {j : Nat} (hj : j < N.bs.length) : w.cell? ⟨L.bb, j, none⟩ = some (.int .u8 (N.bs.getD j 0)) := by
  rw [h.byt.cell j, List.getElem?_toArray, bv_at hj]
theorem Chip.count (h : Chip t base w L N) {j : Nat} (hj : j < N.er.length) : w.cell? ⟨L.eb, j, none⟩ = some (.int .i64 (N.er.getD j 0)) := by
  rw [h.ers.cell j, List.getElem?_toArray, iv_at hj]
theorem Chip.row (h : Chip t base w L N) {n : Nat} (ok : N.Ok n) {p k : Nat} (hp : p + k ≤ N.A * N.B) : Row w (.slice (some ⟨L.bb, p, none⟩) k (N.A * N.B - p)) ((N.bs.drop p).take k) := by
  have hbig := ok.big
  have hlen := ok.len
  have hl : ((N.bs.drop p).take k).length = k := by simp [List.length_take, List.length_drop]; omega
  have := Row.mk (w := w) (b := L.bb) (off := p) (cap := N.A * N.B - p) (xs := (N.bs.drop p).take k) (by rw [hl]; omega) (by unfold maxLen; omega) (fun i hi => by
    rw [h.byte (by rw [hlen]; omega)]
    rw [hl] at hi
    simp [List.getD, hi]) ((ok.bys.drop p).take k)
  rwa [hl] at this
theorem Blk.setB {b : Nat} {xs : List Int} (h : Blk w b (bv xs).toArray 5) (j : Nat) (y : Int) : Blk (w.setCell ⟨b, j, none⟩ (.int .u8 y)) b (bv (xs.set j y)).toArray 5 := by
  have := h.set j (.int .u8 y)
  rw [← bv_set]
  simpa using this
theorem Blk.setI {b : Nat} {xs : List Int} (h : Blk w b (iv .i64 xs).toArray 3) (j : Nat) (y : Int) : Blk (w.setCell ⟨b, j, none⟩ (.int .i64 y)) b (iv .i64 (xs.set j y)).toArray 3 := by
  have := h.set j (.int .i64 y)
  rw [show iv .i64 (xs.set j y) = (iv .i64 xs).set j (.int .i64 y) from by simp [iv, List.map_set]]
  simpa using this
theorem Blk.byteAt {b : Nat} {xs : List Int} (h : Blk w b (bv xs).toArray 5) {j : Nat} (hj : j < xs.length) : w.cell? ⟨b, j, none⟩ = some (.int .u8 (xs.getD j 0)) := by
  rw [h.cell j, List.getElem?_toArray, bv_at hj]
end

theorem setBits_any (w : World) (bb p n cap : Nat) (m : Int) (bs : List Int) (h : Blk w bb (bv bs).toArray 5) (hl : p + n ≤ bs.length) (hn : n < 1000000) :
    Calls Try.prog 33 #[.slice (some ⟨bb, p, none⟩) n cap, .int .u8 m] w fun e w' => e = .returned (.tuple #[]) ∧ Blk w' bb (bv (fill bs p m n)).toArray 5 ∧ w.grownBy w' (some bb) := by
  go_enter Try.func33, Try.ntmps33
  go_wp2
  go_loopw [7] (fun i wr => ∃ k : Nat, k ≤ n ∧ i = .int .i64 k ∧ Blk wr bb (bv (fill bs p m k)).toArray 5 ∧ w.grownBy wr (some bb)) (fun i _ => n - (intOf i).toNat)
  case atStart => exact ⟨0, Nat.zero_le _, rfl, h, World.grownBy.refl _ _⟩
  case round =>
    obtain ⟨k, hk, rfl, hB, hg⟩ := hrel
    by_cases hlt : k < n
    · have hc := hB.byteAt (j := p + k) (by rw [fill_length]; omega)
      have hf := hB.frozen (p + k)
      have R := hB.setB (p + k) (bits .or .u8 ((fill bs p m k).getD (p + k) 0) m)
      have G := grown_trans hg (grown_setCell wr bb (p + k) (.int .u8 (bits .or .u8 ((fill bs p m k).getD (p + k) 0) m)))
      have HR : Hid (Blk _ _ (bv (fill bs p m (k + 1))).toArray _) := R
      generalize (fill bs p m k).getD (p + k) 0 = x at *
      clear R hB h
      go_wp2
      exact ⟨⟨k + 1, by omega, by go_num, HR.out, G⟩, by simp [intOf]; omega⟩
    · obtain rfl : k = n := by omega
      go_wp2
      go_end0
      exact ⟨rfl, hB, hg⟩

theorem has_any (t : Unit) (base : Nat) (w : World) (L : Lay) (N : NSt) (n : Nat) (h : Chip 70 base w L N) (ok : N.Ok n) (p k : Int) (hp : (Lit.int .i64 p).wf = true) (hk : (Lit.int .i64 k).wf = true) :
    Calls Try.prog 65 #[.pointer (some ⟨L.c, 0, none⟩), .int .i64 p, .int .i64 k] w fun e w' => e = .returned (.bool (hasS N.bs.length p k)) ∧ w' = w := by
  have hbig := ok.big
  have hlen := ok.len
  have hp' := of_wf_i64 hp
  have hk' := of_wf_i64 hk
  have c6 := h.blk.cell 6
  simp [ccells] at c6
  rw [hlen]
  clear hp hk ok h hlen
  generalize N.A * N.B = len at *
  unfold hasS
  by_cases h1 : 0 ≤ k
  · by_cases h2 : 0 ≤ p
    · go_enter Try.func65, Try.ntmps65
      go_wp2
      go_ret
      refine ⟨ret_one (congrArg Value.bool ?_), rfl⟩
      apply decide_eq_decide.2
      omega
    · go_enter Try.func65, Try.ntmps65
      go_wp2
      go_ret
      refine ⟨ret_one (congrArg Value.bool ?_), rfl⟩
      simp; omega
  · go_enter Try.func65, Try.ntmps65
    go_wp2
    go_ret
    refine ⟨ret_one (congrArg Value.bool ?_), rfl⟩
    simp; omega

theorem eqNil (w : World) (a : Option Addr) (n c : Nat) : (binOp .eql 38 (.slice a n c) (.slice none 0 0)).run Try.prog w = .ok (.bool a.isNone) w := Lib.run_eql_slice_nil w _ _ a n c 0 0 Try.underlying38

theorem own_empty (w : World) : Own w.heap.size (w.alloc (.cells #[] 5)) (.slice (some ⟨w.heap.size, 0, none⟩) 0 0) [] := by
  refine ⟨⟨rfl, .inr ⟨w.heap.size, 0, #[], rfl, Nat.le_refl _, ?_, Nat.le_refl _, Nat.zero_le _, rfl, rfl⟩⟩, Bys.nil⟩
  exact Blk.new w #[] 5

theorem Clone_any (w : World) (b p k cap : Nat) (xs : List Int) (h : Row w (.slice (some ⟨b, p, none⟩) k cap) xs) (hk : k < 1000000) :
    Calls Try.prog 51 #[.slice (some ⟨b, p, none⟩) k cap] w fun e w' => ∃ v, e = .returned v ∧ Own w.heap.size w' v xs ∧ Below w.heap.size w w' := by
  have hx : k = xs.length := h.caps.1
  have HX := hide hx
  clear hx
  have h1 := eqNil w (some ⟨b, p, none⟩) k cap
  simp at h1
  have hb : Below w.heap.size w (w.alloc (.cells #[] 5)) := (Below.refl _ _).alloc (Nat.le_refl _) _
  have h2 := h.below hb
  go_enter Try.func51, Try.ntmps51
  go_wp2_with (at_builtin; refine wpList_append_row rfl _ _ rfl w.heap.size _ _ [] xs rfl (own_empty w) rfl h2 (by have := HX.out; simp; omega) (by simp) ?_)
  intro v' w' hown hg
  have hB : Below w.heap.size w w' := hb.grown hg (by simp) (fun k e => by cases e; exact Nat.le_refl _)
  try rw [List.nil_append] at hown
  have hlen := hown.row.of_len
  obtain ⟨ao, c2, rfl⟩ := hlen
  go_wp2
  go_ret
  exact ⟨_, rfl, hown, hB⟩

def readS (bs : List Int) (p k : Int) : Int × List Int := if hasS bs.length p k then (0, (bs.drop p.toNat).take k.toNat) else (1, [])

theorem Read_any (base : Nat) (w : World) (L : Lay) (N : NSt) (n : Nat) (h : Chip 70 base w L N) (ok : N.Ok n) (p k : Int) (hp : (Lit.int .i64 p).wf = true) (hk : (Lit.int .i64 k).wf = true) :
    Calls Try.prog 48 #[.pointer (some ⟨L.c, 0, none⟩), .int .i64 p, .int .i64 k] w fun e w' =>
      ∃ v, e = .returned (.tuple #[v, .int .i64 (readS N.bs p k).1]) ∧ Own w.heap.size w' v (readS N.bs p k).2 ∧ Below w.heap.size w w' := by
  have hbig := ok.big
  have hh := has_any () base w L N n h ok p k hp hk
  have hlen := ok.len
  have c6 := h.blk.cell 6
  simp [ccells] at c6
  by_cases ht : hasS N.bs.length p k = true
  · have hr : readS N.bs p k = (0, (N.bs.drop p.toNat).take k.toNat) := by simp [readS, ht]
    rw [hr]
    rw [ht] at hh
    have hu := ht
    unfold hasS at hu
    simp at hu
    obtain ⟨P, rfl⟩ := Int.eq_ofNat_of_zero_le hu.2.1
    obtain ⟨K, rfl⟩ := Int.eq_ofNat_of_zero_le hu.1
    have hle : P + K ≤ N.A * N.B := by omega
    have hrow := h.row ok hle
    by_cases hP : P = N.A * N.B
    · obtain rfl : K = 0 := by omega
      have hrow0 : Row w (.slice (some ⟨L.bb, 0, none⟩) 0 0) [] := Row.mk (xs := []) (Nat.le_refl _) (Nat.zero_le _) (fun i hi => by simp at hi) Bys.nil
      have hcl := Clone_any w L.bb 0 0 _ _ hrow0 (by omega)
      rw [show (N.bs.drop ((P : Int)).toNat).take ((0 : Nat) : Int).toNat = [] from by simp]
      clear hp hk ok h hlen hu ht hrow hrow0 hr
      subst hP
      generalize N.A * N.B = len at *
      go_enter Try.func48, Try.ntmps48
      go_wp2_with fail
      refine hh.mono ?_
      rintro e w1 ⟨rfl, rfl⟩
      go_wp2_with fail
      refine hcl.mono ?_
      rintro e w2 ⟨v, rfl, hown, hB⟩
      obtain ⟨ao, c2, rfl⟩ := hown.row.of_len
      go_wp2
      go_ret2
      exact ⟨_, rfl, hown, hB⟩
    · have hcl := Clone_any w L.bb P K _ _ hrow (by omega)
      rw [show (N.bs.drop ((P : Int)).toNat).take (K : Int).toNat = (N.bs.drop P).take K from by simp]
      clear hp hk ok h hlen hu ht hr
      generalize (N.bs.drop P).take K = ys at *
      generalize N.A * N.B = len at *
      go_enter Try.func48, Try.ntmps48
      go_wp2_with fail
      refine hh.mono ?_
      rintro e w1 ⟨rfl, rfl⟩
      go_wp2_with fail
      refine hcl.mono ?_
      rintro e w2 ⟨v, rfl, hown, hB⟩
      obtain ⟨ao, c2, rfl⟩ := hown.row.of_len
      go_wp2
      go_ret2
      exact ⟨_, rfl, hown, hB⟩
  · have hf : hasS N.bs.length p k = false := by simpa using ht
    have hr : readS N.bs p k = (1, []) := by simp [readS, hf]
    rw [hr]
    rw [hf] at hh
    clear hp hk ok h hlen ht hf hr
    go_enter Try.func48, Try.ntmps48
    go_wp2_with fail
    refine hh.mono ?_
    rintro e w1 ⟨rfl, rfl⟩
    go_wp2
    go_ret2
    exact ⟨_, rfl, Own.nil _ _, Below.refl _ _⟩

theorem sets_drop (bs : List Int) (p : Nat) (b : List Int) (k : Nat) (hk : k < b.length) : sets bs (p + k) (b.drop k) = ((bits .andNot .u8 (b.getD k 0) (bs.getD (p + k) 0) != 0) || sets bs (p + (k + 1)) (b.drop (k + 1))) := by
  rw [drop_cons hk]; rfl

theorem setsBits_any (w : World) (bb p n cap : Nat) (bs : List Int) (v : Value) (b : List Int) (h : Blk w bb (bv bs).toArray 5) (hv : Row w v b) (hn : n = b.length) (hl : p + n ≤ bs.length) (hn : n < 1000000) :
    Calls Try.prog 70 #[.slice (some ⟨bb, p, none⟩) n cap, v] w fun e w' => e = .returned (.bool (sets bs p b)) ∧ w' = w := by
  subst n
  by_cases h0 : b = []
  · subst h0
    obtain ⟨ao, c2, rfl⟩ := hv.of_len
    simp only [List.length_nil]
    go_enter Try.func70, Try.ntmps70
    go_wp2
    refine wp_loop_rounds 1 ?_
    rw [rounds_succ]
    go_wp2
    go_ret
    exact ⟨rfl, rfl⟩
  · obtain ⟨vb, off, c2, rfl, _, hlt, hc⟩ := hv.at h0
    generalize hL : b.length = len at *
    go_enter Try.func70, Try.ntmps70
    go_wp2
    go_loop [9] (fun i => ∃ k : Nat, k ≤ len ∧ i = .int .i64 k ∧ sets bs p b = sets bs (p + k) (b.drop k)) (fun i => len - (intOf i).toNat)
    case atStart => exact ⟨0, Nat.zero_le _, rfl, rfl⟩
    case round =>
      obtain ⟨k, hk, rfl, hs⟩ := hrel
      by_cases hlt : k < len
      · have hck := hc k hlt
        have hbk := h.byteAt (j := p + k) (by omega)
        rw [sets_drop bs p b k (by omega)] at hs
        generalize b.getD k 0 = x at *
        generalize bs.getD (p + k) 0 = y at *
        by_cases hz : bits .andNot .u8 x y = 0
        · simp only [hz, bne_self_eq_false, Bool.false_or] at hs
          have HS := hide hs
          clear hs hc h hv
          go_wp2
          go_round
          case rel => exact ⟨k + 1, by omega, by go_num, HS.out⟩
          case measure => simp [intOf]; omega
        · have hz' : (bits .andNot .u8 x y != 0) = true := by simpa using hz
          simp only [hz', Bool.true_or] at hs
          have HS := hide hs
          clear hs hc h hv hz
          go_wp2
          go_ret
          exact ⟨ret_one (congrArg Value.bool HS.out.symm), rfl⟩
      · obtain rfl : k = len := by omega
        rw [List.drop_of_length_le (by omega)] at hs
        have HS := hide hs
        clear hs
        go_wp2
        go_ret
        exact ⟨ret_one (congrArg Value.bool HS.out.symm), rfl⟩
end Go.Proofs.Ytgkgbbffgcmekaa
