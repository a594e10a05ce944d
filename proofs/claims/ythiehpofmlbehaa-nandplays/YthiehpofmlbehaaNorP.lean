/-
  Plain matter of a chip whose bits are cleared one by one: what a program and an erase make of its bytes. Which blocks turn.
-/
import Derived.Test.YthiehpofmlbehaaPowN
import Derived.Test.YthiehpofmlbehaaInts
namespace Go.Proofs.Ythiehpofmlbehaa
open Go.RowKit
set_option linter.unusedVariables false

/-! ### which blocks turn -/
/-- No old block turns but those of l. -/
structure Only (l : List Nat) (w w' : World) : Prop where
  os : w'.os = w.os
  tape : w'.tape = w.tape
  output : w'.output = w.output
  size : w.heap.size ≤ w'.heap.size
  block : ∀ k, k < w.heap.size → k ∉ l → w'.heap[k]? = w.heap[k]?
theorem Only.refl (l : List Nat) (w : World) : Only l w w := ⟨rfl, rfl, rfl, Nat.le_refl _, fun _ _ _ => rfl⟩
theorem Only.trans {l : List Nat} {a b c : World} (h : Only l a b) (k : Only l b c) : Only l a c :=
  ⟨k.os.trans h.os, k.tape.trans h.tape, k.output.trans h.output, Nat.le_trans h.size k.size, fun i hi hn => (k.block i (Nat.lt_of_lt_of_le hi h.size) hn).trans (h.block i hi hn)⟩
theorem Only.wide {l m : List Nat} {a b : World} (h : Only l a b) (hs : ∀ k ∈ l, k ∈ m) : Only m a b := ⟨h.os, h.tape, h.output, h.size, fun k hk hn => h.block k hk (fun e => hn (hs k e))⟩
theorem only_grown {r : Option Nat} {l : List Nat} {w w' : World} (h : w.grownBy w' r) (hr : ∀ k, r = some k → k ∈ l) : Only l w w' :=
  ⟨h.os, h.tape, h.output, h.size, fun k hk hn => h.block k hk (fun e => hn (hr k e.symm))⟩
theorem only_below {l : List Nat} {w w' : World} (h : Below w.heap.size w w') : Only l w w' := ⟨h.os, h.tape, h.output, h.size, fun k hk _ => h.block k hk⟩
theorem Only.below {l : List Nat} {B : Nat} {a w w' : World} (h : Only l w w') (hb : Below B a w) (hl : ∀ k ∈ l, B ≤ k) (hs : B ≤ w.heap.size) : Below B a w' :=
  ⟨h.os.trans hb.os, h.tape.trans hb.tape, h.output.trans hb.output, Nat.le_trans hb.size h.size, fun k hk => (h.block k (by omega) (fun e => by have := hl k e; omega)).trans (hb.block k hk)⟩
theorem Only.none {w w' : World} (h : Only [] w w') : w.grownBy w' none := ⟨h.os, h.tape, h.output, h.size, fun k hk _ => h.block k hk (by simp)⟩
theorem Blk.only {l : List Nat} {w w' : World} {b : Nat} {cs : Array Value} {t : TypeId} (h : Blk w b cs t) (hg : Only l w w') (hn : b ∉ l) : Blk w' b cs t := (hg.block b h.lt hn).trans h
theorem Row.only {l : List Nat} {w w' : World} {v : Value} {xs : List Int} (h : Row w v xs) (hg : Only l w w') (hn : ∀ b off n cap, v = .slice (some ⟨b, off, none⟩) n cap → b ∉ l) : Row w' v xs := by
  by_cases h0 : xs = []
  · subst h0
    obtain ⟨ao, cap, rfl, h1, h2, h3, h4, h5⟩ := h
    exact ⟨ao, cap, rfl, h1, h2, h3, fun a _ j u hu => by simp [bv] at hu, h5⟩
  · obtain ⟨b, off, cap, hv, hl, hlt, hc⟩ := h.at h0
    have hm : cap ≤ maxLen := by
      obtain ⟨ao, c, hv', _, h2, _⟩ := h
      rw [hv] at hv'
      simp at hv'
      omega
    have hb := h.bys
    have hnb := hn b off _ cap hv
    rw [hv]
    exact Row.mk hl hm (fun i hi => (World.cell?_of_block (hg.block b hlt hnb)).trans (hc i hi)) hb
theorem only_setCell (w : World) (b i : Nat) (v : Value) (l : List Nat) (h : b ∈ l) : Only l w (w.setCell ⟨b, i, none⟩ v) := only_grown (grown_setCell w b i v) (fun k e => by cases e; exact h)
theorem PowN.only {base b : Nat} {w w' : World} {S : PSt} {l : List Nat} (h : PowN base w b S) (hg : Only l w w') (hr : ∀ k ∈ l, k ≠ b) : PowN base w' b S := ⟨h.1.only hg (fun e => hr b e rfl), h.2⟩
theorem RPowN.only {base b : Nat} {w w' : World} {S : PSt} {l : List Nat} (h : RPowN base w b S) (hg : Only l w w') (hr : ∀ k ∈ l, k ≠ b) : RPowN base w' b S := ⟨h.1.only hg (fun e => hr b e rfl), h.2⟩

/-! ### bytes -/
theorem bits_u8 (op : BinOp) (x y : Int) : 0 ≤ bits op .u8 x y ∧ bits op .u8 x y < 256 := by
  unfold bits
  simp only [IntKind.wrap_u8]
  exact ⟨Int.emod_nonneg _ (by omega), Int.emod_lt_of_pos _ (by omega)⟩
theorem byte_nat {x : Int} (h : 0 ≤ x ∧ x < 256) : ∃ n : Fin 256, x = (n.val : Int) := ⟨⟨x.toNat, by omega⟩, by simp; omega⟩
theorem or_255 {x : Int} (h : 0 ≤ x ∧ x < 256) : bits .or .u8 x 255 = 255 := by
  obtain ⟨n, rfl⟩ := byte_nat h
  exact (by decide +kernel : ∀ n : Fin 256, bits .or .u8 (n.val : Int) 255 = 255) n
theorem Bys.set {xs : List Int} (h : Bys xs) (j : Nat) {y : Int} (hy : 0 ≤ y ∧ y < 256) : Bys (xs.set j y) := by
  intro x hx
  rcases List.mem_or_eq_of_mem_set hx with h' | rfl
  · exact h x h'
  · exact hy
theorem bv_set (xs : List Int) (j : Nat) (y : Int) : (bv xs).set j (.int .u8 y) = bv (xs.set j y) := by simp [bv, List.map_set]
theorem drop_cons {xs : List Int} {k : Nat} (h : k < xs.length) : xs.drop k = xs.getD k 0 :: xs.drop (k + 1) := by
  rw [List.drop_eq_getElem_cons h]
  congr 1
  simp [List.getD, List.getElem?_eq_getElem h]
theorem getD_set (xs : List Int) (i j : Nat) (y : Int) : (xs.set i y).getD j 0 = if i = j ∧ i < xs.length then y else xs.getD j 0 := by
  simp only [List.getD, List.getElem?_set]
  by_cases h : i = j
  · subst h
    by_cases h2 : i < xs.length <;> simp [h2]
  · simp [h]

/-! ### what is done -/
/-- Has a byte a bit that the one there has not? -/
def sets (bs : List Int) (p : Nat) : List Int → Bool
  | [] => false
  | x :: r => (bits .andNot .u8 x (bs.getD p 0) != 0) || sets bs (p + 1) r
/-- Byte by byte. -/
def progS (S : PSt) (bs : List Int) (p : Nat) : List Int → Int × PSt × List Int
  | [] => (0, S, bs)
  | x :: r => if S.step.1 then progS S.step.2.2 (bs.set p x) (p + 1) r
    else if S.step.2.1 then (6, S.step.2.2, bs.set p (bits .or .u8 x (bits .and .u8 (bs.getD p 0) S.step.2.2.mask))) else (6, S.step.2.2, bs)
def hasS (len : Nat) (p n : Int) : Bool := decide (0 ≤ n ∧ 0 ≤ p ∧ p + n ≤ len)
def progA (S : PSt) (bs : List Int) (p : Int) (b : List Int) : Int × PSt × List Int :=
  if hasS bs.length p b.length then (if sets bs p.toNat b then (9, S, bs) else progS S bs p.toNat b) else (1, S, bs)
/-- The bits of m in n bytes. -/
def fill (bs : List Int) (p : Nat) (m : Int) : Nat → List Int
  | 0 => bs
  | n + 1 => (fill bs p m n).set (p + n) (bits .or .u8 ((fill bs p m n).getD (p + n) 0) m)
theorem fill_length (bs : List Int) (p : Nat) (m : Int) (n : Nat) : (fill bs p m n).length = bs.length := by
  induction n with
  | zero => rfl
  | succ n ih => simp [fill, ih]
theorem fill_bys {bs : List Int} (h : Bys bs) (p : Nat) (m : Int) (n : Nat) : Bys (fill bs p m n) := by
  induction n with
  | zero => exact h
  | succ n ih => exact ih.set _ (bits_u8 _ _ _)
theorem fill_at (bs : List Int) (p : Nat) (m : Int) (n j : Nat) (hl : p + n ≤ bs.length) : (fill bs p m n).getD j 0 = if p ≤ j ∧ j < p + n then bits .or .u8 (bs.getD j 0) m else bs.getD j 0 := by
  induction n generalizing j with
  | zero => simp [fill]; intro h1 h2; omega
  | succ n ih =>
    rw [fill, getD_set, ih _ (by omega), ih _ (by omega), fill_length]
    by_cases h : p + n = j
    · subst h
      simp
      omega
    · rw [if_neg (by omega)]
      by_cases h2 : p ≤ j ∧ j < p + n
      · rw [if_pos h2, if_pos (by omega)]
      · rw [if_neg h2, if_neg (by omega)]
structure NSt where
  A : Nat
  B : Nat
  c : Int
  d : Int
  e : Int
  bs : List Int
  er : List Int
def eraseA (S : PSt) (N : NSt) (s : Int) : Int × PSt × NSt :=
  if 0 ≤ s ∧ s < N.A then
    (if S.step.1 then (0, S.step.2.2, { N with bs := fill N.bs (s.toNat * N.B) 255 N.B, er := N.er.set s.toNat (N.er.getD s.toNat 0 + 1) })
     else if S.step.2.1 then (6, S.step.2.2, { N with bs := fill N.bs (s.toNat * N.B) S.step.2.2.mask N.B }) else (6, S.step.2.2, N))
  else (1, S, N)
structure NSt.Ok (N : NSt) (n : Nat) : Prop where
  A0 : 2 ≤ N.A
  A1 : N.A ≤ 16
  B0 : 256 ≤ N.B
  B1 : N.B ≤ 4096
  len : N.bs.length = N.A * N.B
  el : N.er.length = N.A
  bys : Bys N.bs
  er : ∀ x ∈ N.er, 0 ≤ x ∧ x ≤ n
theorem NSt.Ok.big {N : NSt} {n : Nat} (h : N.Ok n) : 512 ≤ N.A * N.B ∧ N.A * N.B ≤ 65536 :=
  ⟨Nat.mul_le_mul h.A0 h.B0, Nat.mul_le_mul h.A1 h.B1⟩
theorem NSt.Ok.sector {N : NSt} {n : Nat} (h : N.Ok n) {s : Nat} (hs : s < N.A) : s * N.B + N.B ≤ N.A * N.B := by
  have := Nat.mul_le_mul_right N.B (show s + 1 ≤ N.A by omega)
  rw [Nat.add_mul] at this
  omega
theorem NSt.Ok.more {N : NSt} {n m : Nat} (h : N.Ok n) (hm : n ≤ m) : N.Ok m := ⟨h.1, h.2, h.3, h.4, h.5, h.6, h.7, fun x hx => by have := h.8 x hx; omega⟩
theorem NSt.Ok.bytes {N : NSt} {n : Nat} (h : N.Ok n) {xs : List Int} (hl : xs.length = N.bs.length) (hb : Bys xs) : NSt.Ok { N with bs := xs } n := ⟨h.1, h.2, h.3, h.4, by simpa [hl] using h.5, h.6, hb, h.8⟩
theorem PSt.Ok.more {S : PSt} {n m : Nat} (h : S.Ok n) (hm : n ≤ m) : S.Ok m := ⟨h.1, by have := h.2; omega, h.3, h.4, h.5⟩
theorem PSt.Ok.step {S : PSt} {k : Nat} (h : S.Ok k) : S.step.2.2.Ok (k + 1) := by
  obtain ⟨off, armed, left, mask, steps, fails⟩ := S
  obtain ⟨h1, h2, h3, h4, h5⟩ := h
  have h4' := of_wf_i64 h4
  simp at h1 h2 h3 h4' h5
  unfold PSt.step
  split
  · exact ⟨h1, by simp; omega, h3, h4, h5⟩
  · split
    · exact ⟨h1, by simp; omega, h3, h4, h5⟩
    · rename_i hz
      refine ⟨by simp; omega, by simp; omega, fun ha => ?_, ?_, h5⟩
      · simp at ha hz
        have := h3 ha
        have := hz ha
        simp [ha]; omega
      · cases armed with
        | false => exact h4
        | true =>
          have := h3 rfl
          exact wf_i64 (by simp; omega) (by simp; omega)
theorem PSt.Ok.cut {S : PSt} {k : Nat} (h : S.Ok k) {n mask : Int} (hn : (Lit.int .i64 n).wf = true) (hm : (Lit.int .u8 mask).wf = true) : (S.cut n mask).Ok k :=
  ⟨h.1, by have := h.2; simp [PSt.cut]; omega, by simp [PSt.cut], hn, wf_u8 hm⟩
theorem PSt.Ok.on {S : PSt} {k : Nat} (h : S.Ok k) : S.on.Ok k := ⟨h.1, by have := h.2; simp [PSt.on]; omega, by simp [PSt.on], h.4, h.5⟩
theorem progS_ok {S : PSt} {bs : List Int} {p n : Nat} {b : List Int} (hS : S.Ok n) (hb : Bys bs) (hx : Bys b) : (progS S bs p b).2.1.Ok (n + b.length) ∧ (progS S bs p b).2.2.length = bs.length ∧ Bys (progS S bs p b).2.2 := by
  induction b generalizing S bs p n with
  | nil => exact ⟨hS, rfl, hb⟩
  | cons x r ih =>
    have hS' := hS.step
    simp only [progS]
    split
    · obtain ⟨h1, h2, h3⟩ := ih (S := S.step.2.2) (bs := bs.set p x) (p := p + 1) hS' (hb.set p (hx x (by simp))) (fun y hy => hx y (by simp [hy]))
      exact ⟨h1.more (by simp; omega), by simpa using h2, h3⟩
    · split
      · exact ⟨hS'.more (by simp), by simp, hb.set _ (bits_u8 _ _ _)⟩
      · exact ⟨hS'.more (by simp), rfl, hb⟩
theorem progA_ok {S : PSt} {bs : List Int} {p : Int} {n : Nat} {b : List Int} (hS : S.Ok n) (hb : Bys bs) (hx : Bys b) : (progA S bs p b).2.1.Ok (n + b.length) ∧ (progA S bs p b).2.2.length = bs.length ∧ Bys (progA S bs p b).2.2 := by
  unfold progA
  split
  · split
    · exact ⟨hS.more (by omega), rfl, hb⟩
    · exact progS_ok hS hb hx
  · exact ⟨hS.more (by omega), rfl, hb⟩
theorem eraseA_ok {S : PSt} {N : NSt} {s : Int} {n : Nat} (hS : S.Ok n) (hN : N.Ok n) : (eraseA S N s).2.1.Ok (n + 1) ∧ (eraseA S N s).2.2.Ok (n + 1) := by
  unfold eraseA
  split
  · split
    · refine ⟨hS.step, hN.A0, hN.A1, hN.B0, hN.B1, by simpa [fill_length] using hN.len, by simpa using hN.el, fill_bys hN.bys _ _ _, ?_⟩
      intro x hx
      simp at hx
      rcases List.mem_or_eq_of_mem_set hx with h' | rfl
      · have := hN.er x h'; omega
      · rename_i hs _
        have hlt : s.toNat < N.er.length := by rw [hN.el]; omega
        have : N.er.getD s.toNat 0 = N.er[s.toNat] := by simp [List.getD, List.getElem?_eq_getElem hlt]
        have h2 := hN.er _ (List.getElem_mem hlt)
        have h3 : N.er[s.toNat]?.getD 0 = N.er[s.toNat] := by simp [List.getElem?_eq_getElem hlt]
        first | (rw [h3]; omega) | (rw [this]; omega)
    · split
      · exact ⟨hS.step, (hN.bytes (fill_length _ _ _ _) (fill_bys hN.bys _ _ _)).more (by omega)⟩
      · exact ⟨hS.step, hN.more (by omega)⟩
  · exact ⟨hS.more (by omega), hN.more (by omega)⟩
end Go.Proofs.Ythiehpofmlbehaa
