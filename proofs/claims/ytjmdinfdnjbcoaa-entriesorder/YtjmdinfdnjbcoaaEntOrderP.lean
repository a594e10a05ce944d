/-
  Plain matter of EntriesOrder: names of one letter, in whatever order they come.
-/
import Derived.Test.YtjmdinfdnjbcoaaEntQ
import Derived.Test.YtjmdinfdnjbcoaaRowI
namespace Go.Proofs.Ytjmdinfdnjbcoaa
set_option linter.unusedVariables false

/-- The i-th name. -/
def gx (i : Nat) : ByteArray := ⟨#[UInt8.ofNat (97 + i)]⟩
def gE (i : Nat) : En := ⟨gx i, (i : Int) + 1⟩
def ordE (k : Nat) : List En := (List.range k).map gE
theorem ordE_length (k : Nat) : (ordE k).length = k := by simp [ordE]
theorem ordE_getD {k j : Nat} (h : j < k) : (ordE k).getD j default = gE j := by simp [ordE, List.getD, h]
theorem bl_gx (i : Nat) : bl (gx i) = [UInt8.ofNat (97 + i)] := rfl
theorem g8_lt {a b : Nat} (hb : b < 256) (h : a < b) : UInt8.ofNat a < UInt8.ofNat b := by
  rw [UInt8.lt_iff_toNat_lt, UInt8.toNat_ofNat', UInt8.toNat_ofNat', Nat.mod_eq_of_lt (by omega), Nat.mod_eq_of_lt (by omega)]
  exact h
theorem gx_lt {i j : Nat} (h : i < j) (hj : j ≤ 100) : bl (gx i) < bl (gx j) := by
  rw [bl_gx, bl_gx, List.cons_lt_cons_iff]
  exact .inl (g8_lt (by omega) (by omega))
theorem gx_inj {i j : Nat} (hi : i ≤ 100) (hj : j ≤ 100) (h : bl (gx i) = bl (gx j)) : i = j := by
  rcases Nat.lt_trichotomy i j with h1 | h1 | h1
  · have := gx_lt h1 hj
    rw [h] at this
    exact absurd this (txt_irrefl _)
  · exact h1
  · have := gx_lt h1 hi
    rw [h] at this
    exact absurd this (txt_irrefl _)
theorem gx_right {i : Nat} (h : i ≤ 100) : rightN (bl (gx i)) = true := by
  rw [bl_gx]
  have a1 : UInt8.ofNat (97 + i) ≠ 0 ∧ UInt8.ofNat (97 + i) ≠ 47 ∧ UInt8.ofNat (97 + i) ≠ 46 := by
    refine ⟨?_, ?_, ?_⟩ <;> (intro e; have := congrArg UInt8.toNat e; rw [UInt8.toNat_ofNat', Nat.mod_eq_of_lt (by omega)] at this; simp at this <;> omega)
  unfold rightN
  rw [decide_eq_true_eq]
  refine ⟨by simp, by simp, ?_, ?_, ?_, by simp⟩
  · simp only [List.mem_cons, List.not_mem_nil, or_false]
    exact fun e => a1.1 e.symm
  · simp only [List.mem_cons, List.not_mem_nil, or_false]
    exact fun e => a1.2.1 e.symm
  · intro e
    simp only [List.cons.injEq] at e
    exact a1.2.2 e.1
theorem ordE_mem {k : Nat} {x : En} : x ∈ ordE k ↔ ∃ j, j < k ∧ x = gE j := by
  unfold ordE
  rw [List.mem_map]
  constructor
  · rintro ⟨j, hj, rfl⟩
    exact ⟨j, List.mem_range.1 hj, rfl⟩
  · rintro ⟨j, hj, rfl⟩
    exact ⟨j, List.mem_range.2 hj, rfl⟩
theorem ord_asc {k : Nat} (hk : k ≤ 100) : Asc (ordE k) := by
  refine ⟨fun x hx => ?_, ?_⟩
  · obtain ⟨j, hj, rfl⟩ := ordE_mem.1 hx
    exact ⟨gx_right (by omega), by show 0 < (j : Int) + 1; omega⟩
  · unfold ordE
    rw [List.pairwise_map, List.pairwise_iff_getElem]
    intro i j hi hj hij
    rw [List.length_range] at hi hj
    simp only [List.getElem_range]
    exact gx_lt hij (by omega)
/-- Rising lists of the same entries are the same. -/
theorem asc_eq : ∀ {l m : List En}, Asc l → Asc m → (∀ x, x ∈ l ↔ x ∈ m) → l = m
  | [], [], _, _, _ => rfl
  | [], y :: m, _, _, h => absurd ((h y).2 (by simp)) (by simp)
  | x :: l, [], _, _, h => absurd ((h x).1 (by simp)) (by simp)
  | x :: l, y :: m, hl, hm, h => by
    have pl := List.pairwise_cons.1 hl.rise
    have pm := List.pairwise_cons.1 hm.rise
    have hxy : x = y := by
      rcases List.mem_cons.1 ((h x).1 (by simp)) with e | e
      · exact e
      · rcases List.mem_cons.1 ((h y).2 (by simp)) with f | f
        · exact f.symm
        · exact absurd (pl.1 y f) (txt_asymm (pm.1 x e))
    subst hxy
    congr 1
    refine asc_eq ⟨fun z hz => hl.each z (by simp [hz]), pl.2⟩ ⟨fun z hz => hm.each z (by simp [hz]), pm.2⟩ fun z => ?_
    constructor
    · intro hz
      rcases List.mem_cons.1 ((h z).1 (by simp [hz])) with e | e
      · subst e; exact absurd (pl.1 z hz) (txt_irrefl _)
      · exact e
    · intro hz
      rcases List.mem_cons.1 ((h z).2 (by simp [hz])) with e | e
      · subst e; exact absurd (pm.1 z hz) (txt_irrefl _)
      · exact e
theorem ins_mem {l : List En} {k : Nat} {e x : En} : x ∈ insS l k e ↔ x ∈ l ∨ x = e := by
  unfold insS
  conv => rhs; rw [← List.take_append_drop k l]
  simp only [List.mem_append, List.mem_cons]
  constructor
  · rintro (h | h | h)
    · exact .inl (.inl h)
    · exact .inr h
    · exact .inl (.inr h)
  · rintro ((h | h) | h)
    · exact .inl h
    · exact .inr (.inr h)
    · exact .inr (.inl h)
theorem cut_mem {l : List En} {i : Nat} (hi : i < l.length) {x : En} : (x ∈ cutAt l i ∨ x = l.getD i default) ↔ x ∈ l := by
  have e : l = l.take i ++ l[i] :: l.drop (i + 1) := by
    rw [← List.drop_eq_getElem_cons hi, List.take_append_drop]
  rw [getD_at hi]
  conv => rhs; rw [e]
  unfold cutAt
  simp only [List.mem_append, List.mem_cons]
  constructor
  · rintro ((h | h) | h)
    · exact .inl h
    · exact .inr (.inr h)
    · exact .inr (.inl h)
  · rintro (h | h | h)
    · exact .inl (.inl h)
    · exact .inr h
    · exact .inl (.inr h)
theorem ord_none {k : Nat} (hk : k ≤ 100) : atS (ordE k) (bl (gx k)) = none := by
  refine atS_none.2 fun x hx e => ?_
  obtain ⟨j, hj, rfl⟩ := ordE_mem.1 hx
  have := gx_inj (by omega) hk (show bl (gx j) = bl (gx k) from e)
  omega
theorem g_ok {l : List En} {i : Nat} (hi : i ≤ 100) (h : atS l (bl (gx i)) = none) (hl : l.length < 100) : okS l (gE i) = true := by
  unfold okS
  rw [show bl (gE i).s = bl (gx i) from rfl, gx_right hi, h, decide_eq_true (show 0 < (gE i).n from by show 0 < (i : Int) + 1; omega), decide_eq_true hl]
  rfl
theorem ord_add {k : Nat} (hk : k < 100) : addS (ordE k) (gE k) = (ordE (k + 1), 0) := by
  have hn := ord_none (k := k) (by omega)
  rw [add_yes (g_ok (by omega) hn (by rw [ordE_length]; exact hk))]
  congr 1
  refine asc_eq (asc_ins (ord_asc (by omega)) (gx_right (by omega)) (by show 0 < (k : Int) + 1; omega) hn) (ord_asc (by omega)) fun x => ?_
  rw [ins_mem, ordE_mem, ordE_mem]
  constructor
  · rintro (⟨j, hj, rfl⟩ | rfl)
    · exact ⟨j, by omega, rfl⟩
    · exact ⟨k, by omega, rfl⟩
  · rintro ⟨j, hj, rfl⟩
    by_cases e : j = k
    · subst e; exact .inr rfl
    · exact .inl ⟨j, by omega, rfl⟩
theorem ord_at {n o : Nat} (ho : o < n) (hn : n ≤ 100) : atS (ordE n) (bl (gx o)) = some o := by
  refine atS_some.2 ⟨by rw [ordE_length]; exact ho, by rw [ordE_getD ho]; rfl, fun j hj e => ?_⟩
  rw [ordE_getD (by omega)] at e
  have := gx_inj (by omega) (by omega) (show bl (gx j) = bl (gx o) from e)
  omega
theorem ord_rem {n o : Nat} (ho : o < n) (hn : n ≤ 100) : remS (ordE n) (bl (gx o)) = (cutAt (ordE n) o, 0) := by
  unfold remS
  rw [ord_at ho hn]
theorem ord_cut_len {n o : Nat} (ho : o < n) : (cutAt (ordE n) o).length = n - 1 := by
  rw [cutAt_length _ _ (by rw [ordE_length]; exact ho), ordE_length]
theorem ord_back {n o : Nat} (ho : o < n) (hn : n ≤ 100) : addS (cutAt (ordE n) o) (gE o) = (ordE n, 0) := by
  have hA := ord_asc hn
  have hc := at_cut hA (ord_at ho hn)
  rw [add_yes (g_ok (by omega) hc (by rw [ord_cut_len ho]; omega))]
  congr 1
  refine asc_eq (asc_ins (asc_cut hA o) (gx_right (by omega)) (by show 0 < (o : Int) + 1; omega) hc) hA fun x => ?_
  have := cut_mem (l := ordE n) (i := o) (by rw [ordE_length]; exact ho) (x := x)
  rw [ordE_getD ho] at this
  rw [ins_mem]
  exact this
theorem ord_right {n : Nat} (hn : n ≤ 100) : rightE (ordE n) = true := right_asc.2 ⟨by rw [ordE_length]; exact hn, ord_asc hn⟩

/-- All numbers below n, in some order, each once. -/
structure PermN (xs : List Int) (n : Nat) : Prop where
  len : xs.length = n
  rng : ∀ i, i < n → 0 ≤ xs.getD i 0 ∧ xs.getD i 0 < n
  sur : ∀ y : Nat, y < n → ∃ i, i < n ∧ xs.getD i 0 = y
  inj : ∀ i j, i < n → j < n → xs.getD i 0 = xs.getD j 0 → i = j
theorem PermN.swap {xs : List Int} {n : Nat} (h : PermN xs n) {p k : Nat} (hp : p < n) (hk : k < n) : PermN ((xs.set p (xs.getD k 0)).set k (xs.getD p 0)) n := by
  have hl := h.len
  have e : ∀ j, j < n → ((xs.set p (xs.getD k 0)).set k (xs.getD p 0)).getD j 0 = if k = j then xs.getD p 0 else if p = j then xs.getD k 0 else xs.getD j 0 := by
    intro j hj
    rw [getD_set (by simp; omega), getD_set (by omega)]
  refine ⟨by simp [hl], fun i hi => ?_, fun y hy => ?_, fun i j hi hj hij => ?_⟩
  · rw [e i hi]
    split
    · exact h.rng p hp
    · split
      · exact h.rng k hk
      · exact h.rng i hi
  · obtain ⟨i, hi, hy'⟩ := h.sur y hy
    by_cases h1 : i = p
    · subst h1; exact ⟨k, hk, by rw [e k hk, if_pos rfl]; exact hy'⟩
    · by_cases h2 : i = k
      · subst h2
        exact ⟨p, hp, by rw [e p hp, if_neg h1, if_pos rfl]; exact hy'⟩
      · exact ⟨i, hi, by rw [e i hi, if_neg (Ne.symm h2), if_neg (Ne.symm h1)]; exact hy'⟩
  · rw [e i hi, e j hj] at hij
    have hpk := h.inj p k hp hk
    have hpi := h.inj p i hp hi
    have hpj := h.inj p j hp hj
    have hki := h.inj k i hk hi
    have hkj := h.inj k j hk hj
    have hij' := h.inj i j hi hj
    split at hij <;> split at hij <;> (try split at hij) <;> (try split at hij) <;> omega
/-- What came of the first k, added in that order. -/
structure InB (ys : List Int) (k : Nat) (B : List En) : Prop where
  asc : Asc B
  len : B.length = k
  mem : ∀ x, x ∈ B ↔ ∃ i, i < k ∧ x = gE (ys.getD i 0).toNat
theorem InB.nil (ys : List Int) : InB ys 0 [] := ⟨Asc.nil, rfl, fun x => ⟨fun h => absurd h (by simp), fun ⟨i, hi, _⟩ => by omega⟩⟩
theorem InB.add {ys : List Int} {n k y : Nat} {B : List En} (h : InB ys k B) (hp : PermN ys n) (hn : n ≤ 100) (hk : k < n) (hy : ys.getD k 0 = (y : Int)) : ∃ B', addS B (gE y) = (B', 0) ∧ InB ys (k + 1) B' := by
  have hyn : y < n := by have := hp.rng k hk; omega
  have h0 : atS B (bl (gx y)) = none := by
    refine atS_none.2 fun x hx e => ?_
    obtain ⟨i, hi, rfl⟩ := (h.mem x).1 hx
    have hr := hp.rng i (by omega)
    have := gx_inj (by omega) (by omega) (show bl (gx (ys.getD i 0).toNat) = bl (gx y) from e)
    have := hp.inj i k (by omega) hk (by omega)
    omega
  refine ⟨_, add_yes (g_ok (by omega) h0 (by rw [h.len]; omega)), asc_ins h.asc (gx_right (by omega)) (by show 0 < (y : Int) + 1; omega) h0, by rw [ins_length _ _ _ (above_le _ _), h.len], fun x => ?_⟩
  rw [ins_mem, h.mem]
  constructor
  · rintro (⟨i, hi, rfl⟩ | rfl)
    · exact ⟨i, by omega, rfl⟩
    · exact ⟨k, by omega, by rw [hy]; rfl⟩
  · rintro ⟨i, hi, rfl⟩
    by_cases e : i = k
    · subst e; right; rw [hy]; rfl
    · exact .inl ⟨i, by omega, rfl⟩
theorem InB.all {ys : List Int} {n : Nat} {B : List En} (h : InB ys n B) (hp : PermN ys n) (hn : n ≤ 100) : B = ordE n := by
  refine asc_eq h.asc (ord_asc hn) fun x => ?_
  rw [h.mem, ordE_mem]
  constructor
  · rintro ⟨i, hi, rfl⟩
    have := hp.rng i hi
    exact ⟨_, by omega, rfl⟩
  · rintro ⟨j, hj, rfl⟩
    obtain ⟨i, hi, e⟩ := hp.sur j hj
    exact ⟨i, hi, by rw [e]; rfl⟩
end Go.Proofs.Ytjmdinfdnjbcoaa
