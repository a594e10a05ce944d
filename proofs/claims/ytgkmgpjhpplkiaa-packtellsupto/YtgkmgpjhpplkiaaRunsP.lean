/-
  Runs of pages, as plain data: whether they are right, where a page is, the runs of a table of places. No program is named here.
-/
import Derived.Test.YtgkmgpjhpplkiaaPlain
namespace Go.Proofs.Ytgkmgpjhpplkiaa
set_option linter.unusedVariables false

/-- A run: From, At, Count. -/
structure Rn where
  f : Int
  a : Int
  n : Int
instance : Inhabited Rn := ⟨⟨0, 0, 0⟩⟩

def withinS (r : Rn) : Bool := decide (1 ≤ r.n ∧ 0 ≤ r.f ∧ r.f ≤ 64 - r.n ∧ 0 ≤ r.a ∧ r.a ≤ 2147483648 - r.n)
def goesS (p r : Rn) : Bool := decide (r.f = p.f + p.n ∧ r.a = p.a + p.n)
def behindS (p r : Rn) : Bool := decide (p.f + p.n ≤ r.f) && !goesS p r
def okS : Option Rn → Rn → Bool
  | none, _ => true
  | some p, r => behindS p r
def chainS : Option Rn → List Rn → Bool
  | _, [] => true
  | p, r :: t => (withinS r && okS p r) && chainS (some r) t
def rightS (l : List Rn) : Bool := chainS none l
def lastO : Option Rn → List Rn → Option Rn
  | p, [] => p
  | _, r :: t => lastO (some r) t
def hasS (r : Rn) (k : Int) : Bool := decide (0 < r.n ∧ r.f ≤ k ∧ k < r.f + r.n)
def getR : List Rn → Int → Option Int
  | [], _ => none
  | r :: t, k => if hasS r k then some (r.a + (k - r.f)) else getR t k
def cntS : List Rn → Int
  | [] => 0
  | r :: t => r.n + cntS t
def pgsS (l : List Rn) : List Int := l.flatMap fun r => (List.range r.n.toNat).map fun i : Nat => r.a + (i : Int)

theorem snoc_ind {P : List Rn → Prop} (h0 : P []) (h1 : ∀ m r, P m → P (m ++ [r])) (l : List Rn) : P l := by
  rw [← List.reverse_reverse l]
  induction l.reverse with
  | nil => exact h0
  | cons r t ih => rw [List.reverse_cons]; exact h1 _ _ ih
theorem nil_or_snoc (l : List Rn) : l = [] ∨ ∃ m r, l = m ++ [r] := snoc_ind (P := fun l => l = [] ∨ ∃ m r, l = m ++ [r]) (.inl rfl) (fun m r _ => .inr ⟨m, r, rfl⟩) l

theorem chain_snoc (p : Option Rn) (l : List Rn) (r : Rn) : chainS p (l ++ [r]) = (chainS p l && (withinS r && okS (lastO p l) r)) := by
  induction l generalizing p with
  | nil => simp [chainS, lastO]
  | cons x t ih => rw [List.cons_append, chainS, ih, chainS, lastO]; simp only [Bool.and_assoc]
theorem right_snoc (l : List Rn) (r : Rn) : rightS (l ++ [r]) = (rightS l && (withinS r && okS (lastO none l) r)) := chain_snoc _ _ _
theorem last_snoc (p : Option Rn) (l : List Rn) (r : Rn) : lastO p (l ++ [r]) = some r := by
  induction l generalizing p with
  | nil => rfl
  | cons x t ih => rw [List.cons_append, lastO]; exact ih _
theorem get_snoc (l : List Rn) (r : Rn) (k : Int) : getR (l ++ [r]) k = match getR l k with | some a => some a | none => if hasS r k then some (r.a + (k - r.f)) else none := by
  induction l with
  | nil => simp [getR]
  | cons x t ih =>
    rw [List.cons_append, getR, getR]
    by_cases h : hasS x k = true
    · simp [h]
    · simp only [h]; simpa using ih
theorem cnt_snoc (l : List Rn) (r : Rn) : cntS (l ++ [r]) = cntS l + r.n := by
  induction l with
  | nil => simp [cntS]
  | cons x t ih => rw [List.cons_append, cntS, ih, cntS]; omega
theorem within_iff {r : Rn} : withinS r = true ↔ 1 ≤ r.n ∧ 0 ≤ r.f ∧ r.f ≤ 64 - r.n ∧ 0 ≤ r.a ∧ r.a ≤ 2147483648 - r.n := by simp [withinS]
theorem goes_iff {p r : Rn} : goesS p r = true ↔ r.f = p.f + p.n ∧ r.a = p.a + p.n := by simp [goesS]
theorem behind_iff {p r : Rn} : behindS p r = true ↔ p.f + p.n ≤ r.f ∧ ¬ (r.f = p.f + p.n ∧ r.a = p.a + p.n) := by
  simp only [behindS, goesS, Bool.and_eq_true, decide_eq_true_eq, Bool.not_eq_true', decide_eq_false_iff_not]
theorem has_iff {r : Rn} {k : Int} : hasS r k = true ↔ 0 < r.n ∧ r.f ≤ k ∧ k < r.f + r.n := by simp [hasS]

/-- Where the last one ends. -/
def endS (l : List Rn) : Int := match lastO none l with | none => 0 | some r => r.f + r.n
theorem end_nil : endS [] = 0 := rfl
theorem end_snoc (l : List Rn) (r : Rn) : endS (l ++ [r]) = r.f + r.n := by unfold endS; rw [last_snoc]
theorem right_parts {l : List Rn} {r : Rn} (h : rightS (l ++ [r]) = true) : rightS l = true ∧ withinS r = true ∧ endS l ≤ r.f := by
  rw [right_snoc, Bool.and_eq_true, Bool.and_eq_true] at h
  obtain ⟨h1, h2, h3⟩ := h
  refine ⟨h1, h2, ?_⟩
  have hw := within_iff.1 h2
  unfold endS
  cases hl : lastO none l with
  | none => simp; omega
  | some p =>
    rw [hl] at h3
    exact (behind_iff.1 h3).1
theorem end_nonneg {l : List Rn} (h : rightS l = true) : 0 ≤ endS l ∧ endS l ≤ 64 := by
  rcases nil_or_snoc l with rfl | ⟨m, r, rfl⟩
  · rw [end_nil]; omega
  · have := within_iff.1 (right_parts h).2.1
    rw [end_snoc]; omega
theorem get_end {l : List Rn} (h : rightS l = true) : ∀ k, endS l ≤ k → getR l k = none := by
  revert h
  refine snoc_ind (P := fun l => rightS l = true → ∀ k, endS l ≤ k → getR l k = none) (fun _ k _ => rfl) ?_ l
  intro m r ih h k hk
  obtain ⟨h1, h2, h3⟩ := right_parts h
  have hw := within_iff.1 h2
  rw [end_snoc] at hk
  rw [get_snoc, ih h1 k (by omega)]
  have : hasS r k = false := by rw [Bool.eq_false_iff]; intro e; have := has_iff.1 e; omega
  simp [this]
theorem get_none_has {l : List Rn} {r : Rn} (h : rightS (l ++ [r]) = true) (k : Int) (hk : hasS r k = true) : getR l k = none := by
  obtain ⟨h1, h2, h3⟩ := right_parts h
  exact get_end h1 k (by have := has_iff.1 hk; omega)
theorem get_last {l : List Rn} {r : Rn} (h : rightS (l ++ [r]) = true) (k : Int) (h1 : r.f ≤ k) (h2 : k < r.f + r.n) : getR (l ++ [r]) k = some (r.a + (k - r.f)) := by
  have hh : hasS r k = true := has_iff.2 ⟨by omega, h1, h2⟩
  rw [get_snoc, get_none_has h k hh]
  simp [hh]
theorem get_range {l : List Rn} (h : rightS l = true) {k a : Int} (hg : getR l k = some a) : 0 ≤ k ∧ k < 64 ∧ 0 ≤ a ∧ a ≤ 2147483647 := by
  revert h hg
  refine snoc_ind (P := fun l => rightS l = true → getR l k = some a → 0 ≤ k ∧ k < 64 ∧ 0 ≤ a ∧ a ≤ 2147483647) (fun _ h => by cases h) ?_ l
  intro m r ih h hg
  obtain ⟨h1, h2, h3⟩ := right_parts h
  have hw := within_iff.1 h2
  rw [get_snoc] at hg
  cases hm : getR m k with
  | some b => rw [hm] at hg; exact ih h1 (by rw [hm]; exact hg)
  | none =>
    rw [hm] at hg
    by_cases hh : hasS r k = true
    · simp [hh] at hg
      have := has_iff.1 hh
      omega
    · simp [hh] at hg
theorem right_all {l : List Rn} (h : rightS l = true) : ∀ r ∈ l, withinS r = true := by
  revert h
  refine snoc_ind (P := fun l => rightS l = true → ∀ r ∈ l, withinS r = true) (fun _ r h => by cases h) ?_ l
  intro m r ih h x hx
  obtain ⟨h1, h2, h3⟩ := right_parts h
  rcases List.mem_append.1 hx with hx | hx
  · exact ih h1 x hx
  · simp at hx; subst hx; exact h2
theorem right_len {l : List Rn} (h : rightS l = true) : (l.length : Int) ≤ endS l := by
  revert h
  refine snoc_ind (P := fun l => rightS l = true → (l.length : Int) ≤ endS l) (fun _ => by simp [end_nil]) ?_ l
  intro m r ih h
  obtain ⟨h1, h2, h3⟩ := right_parts h
  have hw := within_iff.1 h2
  have := ih h1
  rw [end_snoc, List.length_append]
  simp
  omega
theorem right_cnt {l : List Rn} (h : rightS l = true) : 0 ≤ cntS l ∧ cntS l ≤ endS l := by
  revert h
  refine snoc_ind (P := fun l => rightS l = true → 0 ≤ cntS l ∧ cntS l ≤ endS l) (fun _ => by simp [end_nil, cntS]) ?_ l
  intro m r ih h
  obtain ⟨h1, h2, h3⟩ := right_parts h
  have hw := within_iff.1 h2
  have := ih h1
  rw [end_snoc, cnt_snoc]
  omega
theorem pgs_snoc (l : List Rn) (r : Rn) : pgsS (l ++ [r]) = pgsS l ++ (List.range r.n.toNat).map fun i : Nat => r.a + (i : Int) := by simp [pgsS]
theorem pgs_len {l : List Rn} (h : rightS l = true) : ((pgsS l).length : Int) = cntS l := by
  revert h
  refine snoc_ind (P := fun l => rightS l = true → ((pgsS l).length : Int) = cntS l) (fun _ => rfl) ?_ l
  intro m r ih h
  obtain ⟨h1, h2, h3⟩ := right_parts h
  have hw := within_iff.1 h2
  have := ih h1
  rw [pgs_snoc, cnt_snoc, List.length_append, List.length_map, List.length_range]
  omega
theorem right_take {l : List Rn} (h : rightS l = true) (k : Nat) : rightS (l.take k) = true := by
  revert h
  refine snoc_ind (P := fun l => rightS l = true → rightS (l.take k) = true) (fun _ => by simp [rightS, chainS]) ?_ l
  intro m r ih h
  rcases Nat.lt_or_ge m.length k with hk | hk
  · rw [List.take_of_length_le (by simp; omega)]; exact h
  · rw [List.take_append_of_le_length hk]; exact ih (right_parts h).1

/-! ### the runs of a table -/
def pushS (l : List Rn) (k a : Int) : List Rn :=
  match l.getLast? with
  | none => [⟨k, a, 1⟩]
  | some r => if goesS r ⟨k, a, 1⟩ then l.dropLast ++ [⟨r.f, r.a, r.n + 1⟩] else l ++ [⟨k, a, 1⟩]
theorem push_nil (k a : Int) : pushS [] k a = [⟨k, a, 1⟩] := rfl
theorem push_snoc (m : List Rn) (r : Rn) (k a : Int) : pushS (m ++ [r]) k a = if goesS r ⟨k, a, 1⟩ then m ++ [⟨r.f, r.a, r.n + 1⟩] else (m ++ [r]) ++ [⟨k, a, 1⟩] := by simp [pushS]
def layS (f : Nat → Option Int) : Nat → List Rn
  | 0 => []
  | k + 1 => match f k with
    | none => layS f k
    | some a => pushS (layS f k) k a
theorem lay_none {f : Nat → Option Int} {k : Nat} (h : f k = none) : layS f (k + 1) = layS f k := by simp [layS, h]
theorem lay_some {f : Nat → Option Int} {k : Nat} {a : Int} (h : f k = some a) : layS f (k + 1) = pushS (layS f k) k a := by simp [layS, h]
theorem lay_congr {f g : Nat → Option Int} : ∀ n, (∀ k, k < n → f k = g k) → layS f n = layS g n
  | 0, _ => rfl
  | n + 1, h => by
    have e := lay_congr n (fun k hk => h k (by omega))
    have e2 := h n (by omega)
    simp [layS, e, e2]
/-- Does a run begin there? -/
def startS (f : Nat → Option Int) (k : Nat) : Bool :=
  match f k with
  | none => false
  | some a => k == 0 || (match f (k - 1) with | none => true | some b => !(b + 1 == a))
def cntF (f : Nat → Option Int) : Nat → Nat
  | 0 => 0
  | k + 1 => cntF f k + if (f k).isSome then 1 else 0
def stF (f : Nat → Option Int) : Nat → Nat
  | 0 => 0
  | k + 1 => stF f k + if startS f k then 1 else 0
/-- All places are such as may be. -/
def Fair (f : Nat → Option Int) : Prop := ∀ k a, k < 64 → f k = some a → 0 ≤ a ∧ a ≤ 2147483647

structure LayOk (f : Nat → Option Int) (n : Nat) : Prop where
  right : rightS (layS f n) = true
  ends : endS (layS f n) ≤ n
  get : ∀ k : Nat, k < n → getR (layS f n) k = f k
  cnt : cntS (layS f n) = cntF f n
  len : (layS f n).length = stF f n

theorem lay_ok {f : Nat → Option Int} (hf : Fair f) : ∀ n, n ≤ 64 → LayOk f n
  | 0, _ => ⟨rfl, by simp [layS, end_nil], fun k h => by omega, rfl, rfl⟩
  | n + 1, hn => by
    have ih := lay_ok hf n (by omega)
    cases hfn : f n with
    | none =>
      have e := lay_none hfn
      refine ⟨by rw [e]; exact ih.right, by rw [e]; have := ih.ends; omega, fun k hk => ?_, by rw [e, ih.cnt]; simp [cntF, hfn], by rw [e, ih.len]; simp [stF, startS, hfn]⟩
      rw [e]
      by_cases hkn : k < n
      · exact ih.get k hkn
      · obtain rfl : k = n := by omega
        rw [hfn]
        exact get_end ih.right _ ih.ends
    | some a =>
      have e := lay_some hfn
      have ha := hf n a (by omega) hfn
      have hcnt : cntF f (n + 1) = cntF f n + 1 := by simp [cntF, hfn]
      rcases nil_or_snoc (layS f n) with h0 | ⟨m, r, h0⟩
      · rw [h0, push_nil] at e
        have hw : rightS [(⟨n, a, 1⟩ : Rn)] = true := by
          simp only [rightS, chainS, okS, Bool.and_true]
          exact within_iff.2 ⟨by simp, by simp, by simp; omega, by simpa using ha.1, by simp; omega⟩
        have hst : startS f n = true := by
          simp only [startS, hfn]
          by_cases hz : n = 0
          · simp [hz]
          · have := ih.get (n - 1) (by omega)
            rw [h0] at this
            simp only [getR] at this
            rw [← this]; simp
        refine ⟨by rw [e]; exact hw, ?_, fun k hk => ?_, ?_, ?_⟩
        · rw [e, show [(⟨n, a, 1⟩ : Rn)] = [] ++ [⟨n, a, 1⟩] from rfl, end_snoc]; simp
        · rw [e]
          by_cases hkn : k < n
          · have := ih.get k hkn
            rw [h0] at this
            rw [← this]
            have : hasS (⟨n, a, 1⟩ : Rn) k = false := by rw [Bool.eq_false_iff]; intro e; have := has_iff.1 e; simp at this; omega
            simp [getR, this]
          · obtain rfl : k = n := by omega
            have : hasS (⟨k, a, 1⟩ : Rn) k = true := has_iff.2 ⟨by simp, by simp, by simp; omega⟩
            simp [getR, this, hfn]
        · have := ih.cnt
          rw [h0] at this
          simp only [cntS] at this
          rw [e, hcnt]; simp [cntS]; omega
        · have := ih.len
          rw [h0] at this
          simp at this
          rw [e, stF, hst]; simp; omega
      · have hr := ih.right
        have hen := ih.ends
        rw [h0] at hr hen
        rw [end_snoc] at hen
        obtain ⟨r1, r2, r3⟩ := right_parts hr
        have hw := within_iff.1 r2
        rw [h0, push_snoc] at e
        have hprev : n ≠ 0 → r.f + r.n = n → f (n - 1) = some (r.a + r.n - 1) := by
          intro hz hq
          rw [← ih.get (n - 1) (by omega), h0, get_last hr _ (by omega) (by omega)]
          congr 1
          omega
        have hprev2 : n ≠ 0 → r.f + r.n < n → f (n - 1) = none := by
          intro hz hq
          rw [← ih.get (n - 1) (by omega), h0]
          exact get_end hr _ (by rw [end_snoc]; omega)
        have hnz : n ≠ 0 := by omega
        by_cases hg : goesS r ⟨n, a, 1⟩ = true
        · rw [if_pos hg] at e
          obtain ⟨g1, g2⟩ := goes_iff.1 hg
          simp only at g1 g2
          have hst : startS f n = false := by
            simp only [startS, hfn, hprev hnz g1.symm]
            simp [hnz]; omega
          have hw2 : withinS ⟨r.f, r.a, r.n + 1⟩ = true := within_iff.2 ⟨by simp; omega, by simp; omega, by simp; omega, by simp; omega, by simp; omega⟩
          have hr2 : rightS (m ++ [⟨r.f, r.a, r.n + 1⟩]) = true := by
            rw [right_snoc, Bool.and_eq_true, Bool.and_eq_true] at hr ⊢
            refine ⟨hr.1, hw2, ?_⟩
            have h3 := hr.2.2
            cases hl : lastO none m with
            | none => rfl
            | some p =>
              rw [hl] at h3
              have := behind_iff.1 h3
              exact behind_iff.2 this
          refine ⟨by rw [e]; exact hr2, by rw [e, end_snoc]; simp; omega, fun k hk => ?_, ?_, ?_⟩
          · rw [e]
            by_cases hkn : k < n
            · rw [← ih.get k hkn, h0, get_snoc, get_snoc]
              have : hasS ⟨r.f, r.a, r.n + 1⟩ (k : Int) = hasS r k := by
                rw [Bool.eq_iff_iff, has_iff, has_iff]; simp; omega
              rw [this]
            · obtain rfl : k = n := by omega
              rw [get_last hr2 _ (by simp; omega) (by simp; omega), hfn]
              congr 1
              simp; omega
          · have := ih.cnt
            rw [h0, cnt_snoc] at this
            rw [e, cnt_snoc, hcnt]; simp; omega
          · have := ih.len
            rw [h0] at this
            rw [e, stF, hst]; simp at this ⊢; omega
        · rw [if_neg hg] at e
          have hst : startS f n = true := by
            simp only [startS, hfn]
            rcases Int.lt_or_le (r.f + r.n) n with hq | hq
            · rw [hprev2 hnz hq]; simp
            · have hq' : r.f + r.n = n := by omega
              rw [hprev hnz hq']
              have : ¬ (r.a + r.n = a) := fun h => hg (goes_iff.2 ⟨by simp; omega, by simp; omega⟩)
              simp; omega
          have hr2 : rightS ((m ++ [r]) ++ [⟨n, a, 1⟩]) = true := by
            rw [right_snoc, Bool.and_eq_true, Bool.and_eq_true]
            refine ⟨hr, within_iff.2 ⟨by simp, by simp, by simp; omega, by simpa using ha.1, by simp; omega⟩, ?_⟩
            rw [last_snoc]
            simp only [okS, behindS, Bool.and_eq_true, decide_eq_true_eq, Bool.not_eq_true']
            exact ⟨hen, by simpa using hg⟩
          refine ⟨by rw [e]; exact hr2, by rw [e, end_snoc]; simp, fun k hk => ?_, ?_, ?_⟩
          · rw [e]
            by_cases hkn : k < n
            · have h2 := ih.get k hkn
              rw [h0] at h2
              rw [get_snoc, h2]
              have : hasS (⟨n, a, 1⟩ : Rn) k = false := by rw [Bool.eq_false_iff]; intro e; have := has_iff.1 e; simp at this; omega
              simp only [this]
              cases f k <;> rfl
            · obtain rfl : k = n := by omega
              rw [get_last hr2 _ (by simp) (by simp; omega), hfn]
              simp
          · have := ih.cnt
            rw [h0] at this
            rw [e, cnt_snoc, hcnt, this]; simp
          · have := ih.len
            rw [h0] at this
            rw [e, stF, hst]
            simp at this ⊢; omega

/-! ### what setting and cutting makes -/
def tabS (l : List Rn) : Nat → Option Int := fun k => getR l k
def updF (f : Nat → Option Int) (i a : Int) : Nat → Option Int := fun k => if (k : Int) = i then some a else f k
def setS (l : List Rn) (i a : Int) : List Rn := if rightS l then (if withinS ⟨i, a, 1⟩ then layS (updF (tabS l) i a) 64 else l) else []
def cutF (f : Nat → Option Int) (n : Int) : Nat → Option Int := fun k => if n ≤ (k : Int) then none else f k
def cutS (l : List Rn) (n : Int) : List Rn := if rightS l then layS (cutF (tabS l) n) 64 else []
theorem fair_tab {l : List Rn} (h : rightS l = true) : Fair (tabS l) := fun k a _ hk => ⟨(get_range h hk).2.2.1, (get_range h hk).2.2.2⟩
theorem fair_upd {f : Nat → Option Int} (h : Fair f) {i a : Int} (ha : 0 ≤ a ∧ a ≤ 2147483647) : Fair (updF f i a) := by
  intro k b hk hb
  unfold updF at hb
  split at hb
  · cases hb; exact ha
  · exact h k b hk hb
theorem fair_cut {f : Nat → Option Int} (h : Fair f) (n : Int) : Fair (cutF f n) := by
  intro k b hk hb
  unfold cutF at hb
  split at hb
  · cases hb
  · exact h k b hk hb
theorem tab_lay {f : Nat → Option Int} (h : Fair f) (k : Nat) (hk : k < 64) : tabS (layS f 64) k = f k := (lay_ok h 64 (Nat.le_refl _)).get k hk
theorem set_lay {f : Nat → Option Int} (h : Fair f) {i a : Int} (hi : 0 ≤ i ∧ i < 64) (ha : 0 ≤ a ∧ a ≤ 2147483647) : setS (layS f 64) i a = layS (updF f i a) 64 := by
  have hr := (lay_ok h 64 (Nat.le_refl _)).right
  have hw : withinS ⟨i, a, 1⟩ = true := within_iff.2 ⟨by simp, by simpa using hi.1, by simp; omega, by simpa using ha.1, by simp; omega⟩
  unfold setS
  rw [hr, hw]
  simp only [if_true]
  refine lay_congr 64 fun k hk => ?_
  unfold updF
  split
  · rfl
  · exact tab_lay h k hk
theorem cut_lay {f : Nat → Option Int} (h : Fair f) (n : Int) : cutS (layS f 64) n = layS (cutF f n) 64 := by
  have hr := (lay_ok h 64 (Nat.le_refl _)).right
  unfold cutS
  rw [hr]
  simp only [if_true]
  refine lay_congr 64 fun k hk => ?_
  unfold cutF
  split
  · rfl
  · exact tab_lay h k hk
theorem lay_empty (n : Nat) : layS (fun _ => none) n = [] := by
  induction n with
  | zero => rfl
  | succ n ih => rw [lay_none rfl, ih]
theorem fair_none : Fair (fun _ => none) := fun k a _ h => by cases h
theorem set_right {l : List Rn} (h : rightS l = true) (i a : Int) : rightS (setS l i a) = true := by
  unfold setS
  rw [h]
  simp only [if_true]
  split
  · rename_i hw
    have := within_iff.1 hw
    exact (lay_ok (fair_upd (fair_tab h) (by simp at this; omega)) 64 (Nat.le_refl _)).right
  · exact h
theorem cut_right {l : List Rn} (h : rightS l = true) (n : Int) : rightS (cutS l n) = true := by
  unfold cutS
  rw [h]
  simp only [if_true]
  exact (lay_ok (fair_cut (fair_tab h) n) 64 (Nat.le_refl _)).right

theorem take_moreR {l : List Rn} {k : Nat} (hk : k < l.length) : l.take (k + 1) = l.take k ++ [l.getD k default] := by
  rw [List.take_succ_eq_append_getElem hk]
  simp [List.getD, List.getElem?_eq_getElem hk]
theorem last_take {l : List Rn} {k : Nat} (hk : k < l.length) : lastO none (l.take (k + 1)) = some (l.getD k default) := by rw [take_moreR hk, last_snoc]
theorem right_more {l : List Rn} {k : Nat} (hk : k < l.length) (h : rightS (l.take k) = true) : rightS (l.take (k + 1)) = (withinS (l.getD k default) && (if k = 0 then true else behindS (l.getD (k - 1) default) (l.getD k default))) := by
  rw [take_moreR hk, right_snoc, h, Bool.true_and]
  cases k with
  | zero => simp [lastO, okS]
  | succ k => rw [last_take (by omega)]; simp [okS]
theorem right_false {l : List Rn} (k : Nat) (h : rightS (l.take k) = false) : rightS l = false := by
  cases h2 : rightS l with
  | false => rfl
  | true => rw [right_take h2 k] at h; cases h
theorem getD_mem {l : List Rn} {k : Nat} (hk : k < l.length) : l.getD k default ∈ l := by
  rw [show l.getD k default = l[k] from by simp [List.getD, List.getElem?_eq_getElem hk]]
  exact List.getElem_mem hk
theorem getD_take {l : List Rn} {i k : Nat} (hi : i < k) : (l.take k).getD i default = l.getD i default := by simp [List.getD, hi]
theorem within_at {l : List Rn} {i k : Nat} (h : rightS (l.take k) = true) (hi : i < k) (hk : k ≤ l.length) : withinS (l.getD i default) = true := by
  refine right_all h _ ?_
  rw [← getD_take hi]
  exact getD_mem (by simp; omega)

theorem get_append (l m : List Rn) (k : Int) : getR (l ++ m) k = match getR l k with | some a => some a | none => getR m k := by
  induction l with
  | nil => simp [getR]
  | cons x t ih =>
    rw [List.cons_append, getR, getR]
    by_cases h : hasS x k = true
    · simp [h]
    · simp only [h]; simpa using ih
theorem get_more {l : List Rn} {i : Nat} (hi : i < l.length) {k : Int} (h : getR (l.take i) k = none) : getR (l.take (i + 1)) k = if hasS (l.getD i default) k then some ((l.getD i default).a + (k - (l.getD i default).f)) else none := by
  rw [take_moreR hi, get_snoc, h]
theorem get_some {l : List Rn} (i : Nat) {k x : Int} (h : getR (l.take i) k = some x) : getR l k = some x := by
  have := get_append (l.take i) (l.drop i) k
  rw [List.take_append_drop, h] at this
  exact this
theorem cnt_more {l : List Rn} {i : Nat} (hi : i < l.length) : cntS (l.take (i + 1)) = cntS (l.take i) + (l.getD i default).n := by rw [take_moreR hi, cnt_snoc]
theorem pgs_more {l : List Rn} {i : Nat} (hi : i < l.length) : pgsS (l.take (i + 1)) = pgsS (l.take i) ++ (List.range (l.getD i default).n.toNat).map fun j : Nat => (l.getD i default).a + (j : Int) := by rw [take_moreR hi, pgs_snoc]
theorem cnt_bound {l : List Rn} (h : rightS l = true) : 0 ≤ cntS l ∧ cntS l ≤ 64 := by
  have := right_cnt h
  have := end_nonneg h
  omega
theorem len_bound {l : List Rn} (h : rightS l = true) : l.length ≤ 64 := by
  have := right_len h
  have := end_nonneg h
  omega
end Go.Proofs.Ytgkmgpjhpplkiaa
