/-
  Plain matter of pack: rows of deeds; what Parse tells.
-/
import Derived.Test.YtgkmgpjhpplkiaaPackQ
namespace Go.Proofs.Ytgkmgpjhpplkiaa
open Go.RowKit
set_option linter.unusedVariables false

def bodyE (d : Dd) : List Int := if d.kind = 1 ∨ d.kind = 3 ∨ d.kind = 4 then n8 d.no else if d.kind = 2 then packI d.x else []
theorem packD_eq (d : Dd) : packD d = (d.kind % 256) :: bodyE d := rfl
def deedD (k : Int) : Dec Dd := if k = 1 ∨ k = 3 ∨ k = 4 then mapD (fun v => ⟨k, v, noI⟩) num8 else mapD (fun x => ⟨2, 0, x⟩) inoD
/-- A deed with what its kind has alone. -/
def DdOk (d : Dd) : Prop := ((d.kind = 1 ∨ d.kind = 3 ∨ d.kind = 4) ∧ In64 d.no ∧ d.x = noI) ∨ (d.kind = 2 ∧ d.no = 0 ∧ InOk d.x)
theorem DdOk.kind {d : Dd} (h : DdOk d) : 1 ≤ d.kind ∧ d.kind ≤ 4 := by
  rcases h with ⟨h, _⟩ | ⟨h, _⟩ <;> omega
theorem deed_full {d : Dd} (h : DdOk d) (ys : List Int) : deedD d.kind (bodyE d ++ ys) = some (d, ys) := by
  unfold deedD bodyE
  obtain ⟨k, no, x⟩ := d
  rcases h with ⟨h1, h2, h3⟩ | ⟨h1, h2, h3⟩
  · dsimp only at h1 h2 h3 ⊢
    rw [if_pos h1, if_pos h1]
    unfold mapD
    rw [num8_good.full _ h2, h3]
    rfl
  · dsimp only at h1 h2 h3 ⊢
    subst h1 h2
    rw [if_neg (by decide), if_neg (by decide), if_pos rfl]
    unfold mapD
    rw [ino_good.full _ h3]
    rfl
theorem deed_short {d : Dd} (h : DdOk d) (n : Nat) (hn : n < (bodyE d).length) : deedD d.kind ((bodyE d).take n) = none := by
  unfold deedD
  unfold bodyE at hn ⊢
  obtain ⟨k, no, x⟩ := d
  rcases h with ⟨h1, h2, h3⟩ | ⟨h1, h2, h3⟩
  · dsimp only at h1 h2 h3 hn ⊢
    rw [if_pos h1] at hn
    rw [if_pos h1, if_pos h1]
    unfold mapD
    rw [num8_good.short _ h2 n hn]
    rfl
  · dsimp only at h1 h2 h3 hn ⊢
    subst h1 h2
    rw [if_neg (by decide), if_pos rfl] at hn
    rw [if_neg (by decide), if_neg (by decide), if_pos rfl]
    unfold mapD
    rw [ino_good.short _ h3 n hn]
    rfl

/-- One deed ahead of what the others tell. -/
def consD (d : Dd) (r : List Dd × Int) : List Dd × Int := if r.2 = 0 then (d :: r.1, 0) else ([], r.2)
/-- What Parse tells, with so many deeds at the most. -/
def unS : Nat → List Int → List Dd × Int
  | 0, _ => ([], 3)
  | _ + 1, [] => ([], 0)
  | n + 1, k :: ys => if k < 1 ∨ 4 < k then ([], 5) else match deedD k ys with
    | none => ([], 3)
    | some p => consD p.1 (unS n p.2)
def parseS (xs : List Int) : List Dd × Int := unS (xs.length + 1) xs
def appD (m : List Dd) (r : List Dd × Int) : List Dd × Int := if r.2 = 0 then (m ++ r.1, 0) else ([], r.2)
theorem un_nil (n : Nat) : unS (n + 1) [] = ([], 0) := rfl
theorem un_deed {d : Dd} (h : DdOk d) (n : Nat) (ys : List Int) : unS (n + 1) (packD d ++ ys) = consD d (unS n ys) := by
  have hk := h.kind
  have e : d.kind % 256 = d.kind := by omega
  rw [packD_eq, List.cons_append, unS, e, if_neg (by omega), deed_full h]
theorem un_err (n : Nat) (ys : List Int) (h : (unS n ys).2 ≠ 0) : (unS n ys).1 = [] := by
  match n, ys with
  | 0, _ => rfl
  | n + 1, [] => exact absurd rfl h
  | n + 1, k :: ys =>
    unfold unS at h ⊢
    by_cases hk : k < 1 ∨ 4 < k
    · rw [if_pos hk]
    · rw [if_neg hk] at h ⊢
      cases hd : deedD k ys with
      | none => rfl
      | some p =>
        rw [hd] at h
        dsimp only at h ⊢
        unfold consD at h ⊢
        by_cases hr : (unS n p.2).2 = 0
        · rw [if_pos hr] at h; exact absurd rfl h
        · rw [if_neg hr]
theorem app_nil {r : List Dd × Int} (h : r.2 ≠ 0 → r.1 = []) : appD [] r = r := by
  unfold appD
  obtain ⟨l, e⟩ := r
  by_cases he : e = 0
  · subst he; simp
  · have := h he
    dsimp only at this ⊢
    rw [if_neg he, this]
theorem cons_app (d : Dd) (t : List Dd) (r : List Dd × Int) : consD d (appD t r) = appD (d :: t) r := by
  unfold consD appD
  by_cases h : r.2 = 0
  · simp [h]
  · simp [h]
theorem un_full {m : List Dd} (hm : ∀ d ∈ m, DdOk d) (n : Nat) (ys : List Int) : unS (m.length + n) (packL m ++ ys) = appD m (unS n ys) := by
  induction m with
  | nil =>
    rw [List.length_nil, Nat.zero_add, packL_nil, List.nil_append, app_nil (un_err n ys)]
  | cons d t ih =>
    have e1 : packL (d :: t) ++ ys = packD d ++ (packL t ++ ys) := by simp [packL, List.append_assoc]
    have e2 : (d :: t).length + n = (t.length + n) + 1 := by simp; omega
    rw [e1, e2, un_deed (hm d (by simp)), ih (fun x hx => hm x (by simp [hx])), cons_app]
theorem packL_len (m : List Dd) : m.length ≤ (packL m).length := by
  induction m with
  | nil => simp
  | cons d t ih =>
    have e : packL (d :: t) = packD d ++ packL t := by simp [packL]
    rw [e, List.length_append, packD_eq]
    simp
    omega
/-- What is packed is parsed. -/
theorem parse_pack {m : List Dd} (hm : ∀ d ∈ m, DdOk d) : parseS (packL m) = (m, 0) := by
  have hl := packL_len m
  unfold parseS
  have e : (packL m).length + 1 = m.length + (((packL m).length - m.length) + 1) := by omega
  have h := un_full hm (((packL m).length - m.length) + 1) []
  rw [List.append_nil] at h
  rw [e, h, un_nil]
  simp [appD]
theorem deed_one (k : Int) : deedD k [] = none := by
  unfold deedD
  split
  · rfl
  · rfl
/-- A byte behind it. -/
theorem parse_kind {m : List Dd} (hm : ∀ d ∈ m, DdOk d) (k : Int) : parseS (packL m ++ [k]) = ([], if k < 1 ∨ 4 < k then 5 else 3) := by
  have hl := packL_len m
  unfold parseS
  have e : (packL m ++ [k]).length + 1 = m.length + (((packL m).length - m.length) + 1 + 1) := by rw [List.length_append, List.length_singleton]; omega
  rw [e, un_full hm]
  unfold unS
  by_cases hk : k < 1 ∨ 4 < k
  · rw [if_pos hk, if_pos hk]; rfl
  · rw [if_neg hk, if_neg hk, deed_one]; rfl
/-- Where a cut lies. -/
theorem pack_take {m : List Dd} {c : Nat} (hc : c < (packL m).length) : ∃ j c', j < m.length ∧ c' < (packD (m.getD j default)).length ∧ (packL m).take c = packL (m.take j) ++ (packD (m.getD j default)).take c' := by
  induction m generalizing c with
  | nil => simp [packL] at hc
  | cons d t ih =>
    have e : packL (d :: t) = packD d ++ packL t := by simp [packL]
    rw [e, List.length_append] at hc
    by_cases h : c < (packD d).length
    · refine ⟨0, c, by simp, by simpa using h, ?_⟩
      rw [e, List.take_append_of_le_length (by omega)]
      simp [packL]
    · obtain ⟨j, c', h1, h2, h3⟩ := ih (c := c - (packD d).length) (by omega)
      refine ⟨j + 1, c', by simpa using h1, by simpa using h2, ?_⟩
      rw [e, List.take_append, List.take_of_length_le (by omega), h3]
      simp [packL, List.append_assoc]
/-- Cut anywhere it is too short, or has fewer deeds. -/
theorem parse_cut {m : List Dd} (hm : ∀ d ∈ m, DdOk d) {c : Nat} (hc : c < (packL m).length) : parseS ((packL m).take c) = ([], 3) ∨ ∃ j, j < m.length ∧ parseS ((packL m).take c) = (m.take j, 0) := by
  obtain ⟨j, c', h1, h2, h3⟩ := pack_take hc
  have hmj : ∀ d ∈ m.take j, DdOk d := fun d hd => hm d (List.mem_of_mem_take hd)
  have hd : DdOk (m.getD j default) := by
    have : m.getD j default = m[j] := by simp [List.getD, List.getElem?_eq_getElem h1]
    rw [this]; exact hm _ (List.getElem_mem h1)
  rw [h3]
  cases c' with
  | zero =>
    right
    refine ⟨j, h1, ?_⟩
    rw [List.take_zero, List.append_nil]
    exact parse_pack hmj
  | succ q =>
    left
    have hl := packL_len (m.take j)
    have hk := hd.kind
    have ek : (m.getD j default).kind % 256 = (m.getD j default).kind := by omega
    rw [packD_eq, List.length_cons] at h2
    rw [packD_eq, List.take_succ_cons, ek]
    unfold parseS
    have e : (packL (m.take j) ++ (m.getD j default).kind :: (bodyE (m.getD j default)).take q).length + 1 = (m.take j).length + ((((packL (m.take j)).length - (m.take j).length) + ((bodyE (m.getD j default)).take q).length + 1) + 1) := by
      rw [List.length_append, List.length_cons]; omega
    rw [e, un_full hmj, unS, if_neg (by omega), deed_short hd q (by omega)]
    rfl
end Go.Proofs.Ytgkmgpjhpplkiaa
