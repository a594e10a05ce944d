/-
  Plain matter of names: a name's bytes, a way cut at its slashes, the parts of a way. No program is named here.
-/
import Derived.Lib.SplitLaws
namespace Go.Proofs.Ytgkmgpjhpplkiaa
set_option linter.unusedVariables false

/-- A text's bytes. -/
def bl (s : ByteArray) : List UInt8 := s.data.toList
/-- The text of bytes. -/
def tx (l : List UInt8) : ByteArray := ⟨l.toArray⟩
theorem bl_tx (l : List UInt8) : bl (tx l) = l := by simp [bl, tx]
theorem tx_bl (s : ByteArray) : tx (bl s) = s := by cases s; simp [bl, tx]
theorem bl_inj {s t : ByteArray} (h : bl s = bl t) : s = t := by rw [← tx_bl s, h, tx_bl]
theorem bl_length (s : ByteArray) : (bl s).length = s.size := by simp [bl]
theorem bl_append (s t : ByteArray) : bl (s ++ t) = bl s ++ bl t := by simp [bl]
theorem bl_extract (s : ByteArray) (a b : Nat) : bl (s.extract a b) = ((bl s).take b).drop a := by
  simp [bl, ByteArray.data_extract, Array.toList_extract, List.drop_take]

/-- May these bytes be a name? -/
def rightN (l : List UInt8) : Bool := decide (1 ≤ l.length ∧ l.length ≤ 32 ∧ 0 ∉ l ∧ 47 ∉ l ∧ l ≠ [46] ∧ l ≠ [46, 46])

/-- Is there a byte that no name has? -/
def barS (l : List UInt8) : Bool := decide (0 ∈ l ∨ 47 ∈ l)
theorem barS_more {l : List UInt8} {k : Nat} (hk : k < l.length) (h : barS (l.take k) = false) : barS (l.take (k + 1)) = (l[k] == 0 || l[k] == 47) := by
  unfold barS at *
  have h' := of_decide_eq_false h
  rw [List.take_succ_eq_append_getElem hk, Bool.eq_iff_iff]
  simp only [decide_eq_true_eq, List.mem_append, List.mem_singleton, Bool.or_eq_true, beq_iff_eq]
  constructor
  · rintro ((h | h) | (h | h))
    · exact absurd (.inl h) h'
    · exact .inl h.symm
    · exact absurd (.inr h) h'
    · exact .inr h.symm
  · rintro (h | h)
    · exact .inl (.inr h.symm)
    · exact .inr (.inr h.symm)
theorem barS_yes {l : List UInt8} {k : Nat} (h : barS (l.take k) = true) : barS l = true := by
  unfold barS at *
  rcases of_decide_eq_true h with h | h
  · exact decide_eq_true (.inl (List.mem_of_mem_take h))
  · exact decide_eq_true (.inr (List.mem_of_mem_take h))
theorem rightN_eq (l : List UInt8) : rightN l = (decide (1 ≤ l.length) && decide (l.length ≤ 32) && !barS l && decide (l ≠ [46]) && decide (l ≠ [46, 46])) := by
  unfold rightN barS
  rw [Bool.eq_iff_iff]
  simp only [decide_eq_true_eq, Bool.and_eq_true, Bool.not_eq_true', decide_eq_false_iff_not, not_or]
  constructor
  · rintro ⟨a, b, c, d, e, f⟩; exact ⟨⟨⟨⟨a, b⟩, c, d⟩, e⟩, f⟩
  · rintro ⟨⟨⟨⟨a, b⟩, c, d⟩, e⟩, f⟩; exact ⟨a, b, c, d, e, f⟩

theorem rightN_bar {l : List UInt8} (h : barS l = true) : rightN l = false := by rw [rightN_eq, h]; simp

/-- What is between the slashes. -/
def cutL : List UInt8 → List (List UInt8)
  | [] => [[]]
  | c :: t => if c = 47 then [] :: cutL t else match cutL t with
    | p :: ps => (c :: p) :: ps
    | [] => [[c]]
theorem cutL_ne (l : List UInt8) : cutL l ≠ [] := by
  cases l with
  | nil => simp [cutL]
  | cons c t =>
    unfold cutL
    split
    · simp
    · split <;> simp
theorem cutL_slash (t : List UInt8) : cutL (47 :: t) = [] :: cutL t := by simp [cutL]
theorem cutL_one {l : List UInt8} (h : (47 : UInt8) ∉ l) : cutL l = [l] := by
  induction l with
  | nil => rfl
  | cons c t ih =>
    simp only [List.mem_cons, not_or] at h
    rw [cutL, if_neg (fun e => h.1 e.symm), ih h.2]
theorem cutL_more (a t : List UInt8) : cutL (a ++ 47 :: t) = cutL a ++ cutL t := by
  induction a with
  | nil => simp [cutL]
  | cons c a ih =>
    rw [List.cons_append, cutL, cutL]
    split
    · rw [ih]; rfl
    · rw [ih]
      cases hc : cutL a with
      | nil => exact absurd hc (cutL_ne a)
      | cons p ps => simp
theorem cutL_mem {l : List UInt8} {c : UInt8} (hc : c ≠ 47) (h : c ∈ l) : ∃ p ∈ cutL l, c ∈ p := by
  induction l with
  | nil => cases h
  | cons d t ih =>
    rw [cutL]
    rcases List.mem_cons.1 h with rfl | h'
    · rw [if_neg hc]
      split
      · exact ⟨_, List.mem_cons_self .., List.mem_cons_self ..⟩
      · exact ⟨_, List.mem_cons_self .., List.mem_cons_self ..⟩
    · obtain ⟨p, hp, hcp⟩ := ih h'
      split
      · exact ⟨p, List.mem_cons_of_mem _ hp, hcp⟩
      · split
        · rename_i q qs hq
          rw [hq] at hp
          rcases List.mem_cons.1 hp with rfl | hp'
          · exact ⟨_, List.mem_cons_self .., List.mem_cons_of_mem _ hcp⟩
          · exact ⟨p, List.mem_cons_of_mem _ hp', hcp⟩
        · rename_i hq
          exact absurd hq (cutL_ne t)

theorem cutL_small {l p : List UInt8} (h : p ∈ cutL l) : p.length ≤ l.length := by
  induction l generalizing p with
  | nil => simp [cutL] at h; simp [h]
  | cons c t ih =>
    rw [cutL] at h
    split at h
    · rcases List.mem_cons.1 h with rfl | h'
      · simp
      · have := ih h'; simp; omega
    · split at h
      · rename_i q qs hq
        rcases List.mem_cons.1 h with rfl | h'
        · have := ih (p := q) (by rw [hq]; exact List.mem_cons_self ..); simp; omega
        · have := ih (p := p) (by rw [hq]; exact List.mem_cons_of_mem _ h'); simp; omega
      · rename_i hq
        exact absurd hq (cutL_ne t)

/-- The parts: what is empty, or ".", is passed over; one that is no name, and not "..", is refused. -/
def walkS : List (List UInt8) → Option (List (List UInt8))
  | [] => some []
  | p :: ps => if p = [] ∨ p = [46] then walkS ps else if p = [46, 46] ∨ rightN p = true then (walkS ps).map (p :: ·) else none
theorem walkS_skip {p : List UInt8} (h : p = [] ∨ p = [46]) (ps : List (List UInt8)) : walkS (p :: ps) = walkS ps := by rw [walkS, if_pos h]
theorem walkS_take {p : List UInt8} (h : p = [46, 46] ∨ rightN p = true) (ps : List (List UInt8)) : walkS (p :: ps) = (walkS ps).map (p :: ·) := by
  have hn : ¬ (p = [] ∨ p = [46]) := by
    rcases h with rfl | h
    · simp
    · unfold rightN at h
      have := of_decide_eq_true h
      rintro (rfl | rfl) <;> simp at this
  rw [walkS, if_neg hn, if_pos h]
theorem walkS_bad {p : List UInt8} (h0 : ¬ (p = [] ∨ p = [46])) (h : ¬ (p = [46, 46] ∨ rightN p = true)) (ps : List (List UInt8)) : walkS (p :: ps) = none := by rw [walkS, if_neg h0, if_neg h]
theorem walkS_append (a b : List (List UInt8)) : walkS (a ++ b) = (walkS a).bind fun x => (walkS b).map (x ++ ·) := by
  induction a with
  | nil => simp [walkS]
  | cons p a ih =>
    by_cases h0 : p = [] ∨ p = [46]
    · rw [List.cons_append, walkS_skip h0, walkS_skip h0, ih]
    · by_cases h1 : p = [46, 46] ∨ rightN p = true
      · rw [List.cons_append, walkS_take h1, walkS_take h1, ih]
        cases walkS a with
        | none => rfl
        | some x => cases walkS b <;> simp
      · rw [List.cons_append, walkS_bad h0 h1, walkS_bad h0 h1]
        rfl
theorem walkS_none {l : List (List UInt8)} {p : List UInt8} (hp : p ∈ l) (h0 : (0 : UInt8) ∈ p) : walkS l = none := by
  induction l with
  | nil => cases hp
  | cons q l ih =>
    rcases List.mem_cons.1 hp with rfl | hp'
    · apply walkS_bad
      · rintro (rfl | rfl) <;> simp at h0
      · rintro (rfl | h)
        · simp at h0
        · unfold rightN at h
          have := of_decide_eq_true h
          exact this.2.2.1 h0
    · have := ih hp'
      by_cases h0' : q = [] ∨ q = [46]
      · rw [walkS_skip h0', this]
      · by_cases h1 : q = [46, 46] ∨ rightN q = true
        · rw [walkS_take h1, this]; rfl
        · exact walkS_bad h0' h1 _

/-- The parts of a way: the names, whether it begins with a slash, the error. -/
def partsS (l : List UInt8) : List (List UInt8) × Bool × Int :=
  if 1 ≤ l.length ∧ l.length ≤ 400 then
    match walkS (cutL l) with
    | some ns => (ns, decide (l.head? = some 47), 0)
    | none => ([], false, 17)
  else ([], false, 17)
def splitS (l : List UInt8) : List (List UInt8) × Int :=
  if (partsS l).2.2 = 0 then (if (partsS l).2.1 = true then ((partsS l).1, 0) else ([], 17)) else ([], 17)
theorem partsS_some {l : List UInt8} {ns : List (List UInt8)} (h1 : 1 ≤ l.length) (h2 : l.length ≤ 400) (h : walkS (cutL l) = some ns) : partsS l = (ns, decide (l.head? = some 47), 0) := by
  unfold partsS; rw [if_pos ⟨h1, h2⟩, h]
theorem partsS_none {l : List UInt8} (h : walkS (cutL l) = none) : partsS l = ([], false, 17) := by
  unfold partsS
  split
  · rw [h]
  · rfl
theorem partsS_long {l : List UInt8} (h : ¬ (1 ≤ l.length ∧ l.length ≤ 400)) : partsS l = ([], false, 17) := by unfold partsS; rw [if_neg h]
theorem partsS_err (l : List UInt8) : (partsS l).2.2 = 0 ∨ (partsS l).2.2 = 17 := by
  unfold partsS
  split
  · split <;> simp
  · simp
theorem splitS_some {t : List UInt8} {ns : List (List UInt8)} (h2 : t.length ≤ 399) (h : walkS (cutL t) = some ns) : splitS (47 :: t) = (ns, 0) := by
  unfold splitS
  rw [partsS_some (by simp) (by simp; omega) (by rw [cutL_slash, walkS_skip (.inl rfl), h])]
  simp
theorem splitS_none {l : List UInt8} (h : walkS (cutL l) = none) : splitS l = ([], 17) := by
  unfold splitS
  rw [partsS_none h]
  simp
theorem splitS_long {l : List UInt8} (h : ¬ (1 ≤ l.length ∧ l.length ≤ 400)) : splitS l = ([], 17) := by
  unfold splitS
  rw [partsS_long h]
  simp

/-! ### as the library cuts it -/
theorem splitK_cut (l : List UInt8) : Lib.splitK [47] 0 (Lib.count l [47]) l = cutL l := by
  induction l with
  | nil => rw [Lib.count_miss (by simp [Lib.index])]; rfl
  | cons c t ih =>
    by_cases hc : c = 47
    · subst hc
      have hix : Lib.index (47 :: t) [47] = 0 := by rw [Lib.index]; simp [List.isPrefixOf]
      rw [Lib.count_cons_eq, Nat.add_comm, Lib.splitK, hix, if_neg (by decide), cutL_slash, ← ih]
      simp
    · have hp : ([47] : List UInt8).isPrefixOf (c :: t) = false := by simp [List.isPrefixOf]; exact fun e => hc e.symm
      have hix : Lib.index (c :: t) [47] = if Lib.index t [47] == -1 then -1 else Lib.index t [47] + 1 := by rw [Lib.index, hp]; simp
      rw [Lib.count_cons_ne c 47 t hc, cutL, if_neg hc, ← ih]
      by_cases hm : Lib.index t [47] = -1
      · rw [Lib.count_miss hm]; rfl
      · have hge := Lib.index_ge t [47]
        obtain ⟨j, hj⟩ : ∃ j : Nat, Lib.index t [47] = j := ⟨(Lib.index t [47]).toNat, by omega⟩
        rw [Lib.count_hit (by simp) hj, Nat.add_comm, Lib.splitK, Lib.splitK, if_neg (by rw [hix, if_neg (by simpa using hm)]; simp; omega), if_neg (by simpa using hm), hix, if_neg (by simpa using hm), hj]
        simp
end Go.Proofs.Ytgkmgpjhpplkiaa
