/-
  Arguments of any shape, opened, with their bulk: for statements that speak of what is of bulk at most so much.
-/
import Derived.Test.YtgkmgpjhpplkiaaRows
import Derived.Test.YtgkmgpjhpplkiaaOpen
namespace Go.Proofs.Ytgkmgpjhpplkiaa
open Go.RowKit Go.ChangeShapes Go.WideShapes Go.Deep
set_option linter.unusedVariables false

/-- Whatever reads as a value of type t has cells of which R holds, with its bulk. -/
def OpensN (P : Program) (w : World) (t : TypeId) (R : List Value → Nat → Prop) : Prop :=
  ∀ (H : Type) (enc : TypeId × Value → H) (fuel : Nat) (cs : List Value) (x : DataW H × List MemPlace), DataW.trod enc P w 0 (fun _ => true) true fuel t cs = some x → R cs (Rows.uptoBulk x.1)

theorem bulk_pos {H : Type} (d : DataW H) : 1 ≤ Rows.uptoBulk d := by
  cases d with
  | lit l => cases l <;> simp [Rows.uptoBulk]
  | _ => simp [Rows.uptoBulk]
theorem bulk_sum {H : Type} {α : Type} (wt : α → Nat) (q : Nat → α) (D : Nat → DataW H) (l : List Nat) (h : ∀ i ∈ l, wt (q i) ≤ Rows.uptoBulk (D i)) : ((l.map q).map wt).sum ≤ Rows.uptoBulkAll (l.map D) := by
  induction l with
  | nil => simp
  | cons i r ih =>
    have h1 := h i (List.mem_cons_self ..)
    have h2 := ih fun j hj => h j (List.mem_cons_of_mem _ hj)
    simp only [List.map_cons, List.sum_cons, Rows.uptoBulkAll]
    omega

section
variable {P : Program} {w : World} {t : TypeId}

theorem OpensN.mono {R R' : List Value → Nat → Prop} (h : OpensN P w t R) (hr : ∀ cs n, R cs n → R' cs n) : OpensN P w t R' := fun H enc fuel cs x hx => hr cs _ (h H enc fuel cs x hx)
/-- What is opened with no word of bulk: its bulk is 1 at least. -/
theorem Opens.toN {R : List Value → Prop} (h : Opens P w t R) : OpensN P w t (fun cs n => R cs ∧ 1 ≤ n) := fun H enc fuel cs x hx => ⟨h H enc fuel cs x hx, bulk_pos _⟩
theorem opensN_string (ht : P.underlying t = some .string) : OpensN P w t (fun cs n => ∃ s : ByteArray, cs = [.string s] ∧ s.size ≤ maxLen ∧ s.size + 1 ≤ n) := by
  intro H enc fuel cs x h
  obtain ⟨s, rfl, hs, hr⟩ := DataW.trod_string ht h
  refine ⟨s, rfl, by assumption, ?_⟩
  subst hs
  simp only [Rows.uptoBulk, Array.length_toList]
  exact Nat.le_refl _

theorem opensN_slice {e : TypeId} {α : Type} [Inhabited α] (ht : P.underlying t = some (.slice e)) (f : α → List Value) (Q : α → Prop) (wt : α → Nat) (he : OpensN P w e (fun cs n => ∃ x, cs = f x ∧ Q x ∧ wt x ≤ n)) :
    OpensN P w t (fun cs n => ∃ v xs, cs = [v] ∧ Seq w (P.cellsOf e) f v xs ∧ (∀ x ∈ xs, Q x) ∧ (xs.map wt).sum + 1 ≤ n) := by
  intro H enc fuel cs x h
  rcases open_slice ht h with ⟨rfl, rfl⟩ | ⟨a, len, cap, m, n, D, Pl, rfl, _, hl, hm, hmm, rfl, hx⟩
  · exact ⟨_, [], rfl, ⟨none, 0, rfl, Nat.le_refl _, Nat.zero_le _, fun _ => rfl, fun a h => by cases h⟩, fun x h => (by cases h), by simp [Rows.uptoBulk]⟩
  · simp only [if_true] at hmm
    subst hmm
    have each : ∀ i, i < len → ∃ y : α, (∀ j u, (f y)[j]? = some u → w.cell? (a.add (i * P.cellsOf e + j)) = some u) ∧ Q y ∧ wt y ≤ Rows.uptoBulk (D i) := by
      intro i hi
      obtain ⟨cs', h1, h2⟩ := hx i (by omega)
      obtain ⟨y, rfl, hy⟩ := he H enc n cs' _ h2
      obtain ⟨_, hlen, hcell⟩ := World.cells?_some h1
      refine ⟨y, fun j u hu => ?_, hy⟩
      have hj : j < P.cellsOf e := by rw [← hlen]; exact (List.getElem?_eq_some_iff.1 hu).1
      have := hcell j hj
      rw [add_add] at this
      rw [this, hu]
    obtain ⟨q, hq⟩ := choose_lt each
    refine ⟨_, (List.range len).map q, rfl, ⟨some a, m, by simp, by simpa using hl, hm, by simp, ?_⟩, ?_, ?_⟩
    · intro a' ha i x hx' j u hu
      obtain rfl := Option.some.inj ha
      obtain ⟨hi, rfl⟩ : i < len ∧ q i = x := by
        rw [List.getElem?_map] at hx'
        by_cases hi : i < len
        · rw [List.getElem?_range hi] at hx'
          exact ⟨hi, by simpa using hx'⟩
        · rw [List.getElem?_eq_none (by simp; omega)] at hx'
          cases hx'
      exact (hq i hi).1 j u hu
    · intro x hx'
      obtain ⟨i, hi, rfl⟩ := List.mem_map.1 hx'
      exact (hq i (List.mem_range.1 hi)).2.1
    · have := bulk_sum wt q D (List.range len) fun i hi => (hq i (List.mem_range.1 hi)).2.2
      simp only [Rows.uptoBulk]
      omega
end
end Go.Proofs.Ytgkmgpjhpplkiaa
