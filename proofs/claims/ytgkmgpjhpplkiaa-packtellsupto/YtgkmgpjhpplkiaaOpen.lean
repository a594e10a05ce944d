/-
  Arguments of any shape, opened: what reads as a value of a type has cells of which something holds. A sequence of elements of several cells each.
-/
import Derived.Test.YtgkmgpjhpplkiaaRows2
import Derived.Deep.Slices
import Derived.ChangeSame
namespace Go.Proofs.Ytgkmgpjhpplkiaa
open Go.RowKit Go.ChangeShapes Go.WideShapes Go.Deep
set_option linter.unusedVariables false

/-- Whatever reads as a value of type t has cells of which R holds. -/
def Opens (P : Program) (w : World) (t : TypeId) (R : List Value → Prop) : Prop :=
  ∀ (H : Type) (enc : TypeId × Value → H) (fuel : Nat) (cs : List Value) (x : DataW H × List MemPlace), DataW.trod enc P w 0 (fun _ => true) true fuel t cs = some x → R cs

section
variable {P : Program} {w : World} {t : TypeId}

theorem Opens.mono {R R' : List Value → Prop} (h : Opens P w t R) (hr : ∀ cs, R cs → R' cs) : Opens P w t R' := fun H enc fuel cs x hx => hr cs (h H enc fuel cs x hx)

theorem opens_int {k : IntKind} (ht : P.underlying t = some (.int k)) : Opens P w t (fun cs => ∃ a, cs = [.int k a] ∧ (Lit.int k a).wf = true) := by
  intro H enc fuel cs x h
  obtain ⟨n, rfl, _, hw⟩ := DataW.trod_int ht h
  exact ⟨n, rfl, hw⟩
theorem opens_bool (ht : P.underlying t = some .bool) : Opens P w t (fun cs => ∃ a, cs = [.bool a]) := by
  intro H enc fuel cs x h
  obtain ⟨b, rfl, _⟩ := DataW.trod_bool ht h
  exact ⟨b, rfl⟩
theorem opens_string (ht : P.underlying t = some .string) : Opens P w t (fun cs => ∃ s : ByteArray, cs = [.string s] ∧ s.size ≤ maxLen) := by
  intro H enc fuel cs x h
  obtain ⟨s, rfl, hs, _⟩ := DataW.trod_string ht h
  exact ⟨s, rfl, by assumption⟩

/-- A slice whose elements, of sz cells each, lie one behind the other: the i-th has the cells of the i-th of xs. -/
def Seq {α : Type} (w : World) (sz : Nat) (f : α → List Value) (v : Value) (xs : List α) : Prop :=
  ∃ ao cap, v = .slice ao xs.length cap ∧ xs.length ≤ cap ∧ cap ≤ maxLen ∧ (ao = none → cap = 0) ∧ ∀ a, ao = some a → ∀ i x, xs[i]? = some x → ∀ j u, (f x)[j]? = some u → w.cell? (a.add (i * sz + j)) = some u

theorem opens_slice {e : TypeId} {α : Type} [Inhabited α] (ht : P.underlying t = some (.slice e)) (f : α → List Value) (Q : α → Prop) (he : Opens P w e (fun cs => ∃ x, cs = f x ∧ Q x)) :
    Opens P w t (fun cs => ∃ v xs, cs = [v] ∧ Seq w (P.cellsOf e) f v xs ∧ ∀ x ∈ xs, Q x) := by
  intro H enc fuel cs x h
  rcases open_slice ht h with ⟨rfl, _⟩ | ⟨a, len, cap, m, n, D, Pl, rfl, _, hl, hm, hmm, _, hx⟩
  · exact ⟨_, [], rfl, ⟨none, 0, rfl, Nat.le_refl _, Nat.zero_le _, fun _ => rfl, fun a h => by cases h⟩, fun x h => by cases h⟩
  · simp only [if_true] at hmm
    subst hmm
    have each : ∀ i, i < len → ∃ y : α, (∀ j u, (f y)[j]? = some u → w.cell? (a.add (i * P.cellsOf e + j)) = some u) ∧ Q y := by
      intro i hi
      obtain ⟨cs', h1, h2⟩ := hx i (by omega)
      obtain ⟨y, rfl, hy⟩ := he H enc n cs' _ h2
      obtain ⟨_, hlen, hcell⟩ := World.cells?_some h1
      refine ⟨y, fun j u hu => ?_, hy⟩
      have hj : j < P.cellsOf e := by rw [← hlen]; exact (List.getElem?_eq_some_iff.1 hu).1
      have := hcell j hj
      rw [add_add] at this
      rw [this, hu]
    obtain ⟨q, hq⟩ := choose_lt each
    refine ⟨_, (List.range len).map q, rfl, ⟨some a, m, by simp, by simpa using hl, hm, by simp, ?_⟩, ?_⟩
    · intro a' ha i x hx' j u hu
      obtain rfl := Option.some.inj ha
      obtain ⟨hi, rfl⟩ : i < len ∧ q i = x := by
        rw [List.getElem?_map] at hx'
        by_cases hi : i < len
        · rw [List.getElem?_range hi] at hx'
          exact ⟨hi, by simpa using hx'⟩
        · rw [List.getElem?_eq_none (by simp; omega)] at hx'
          cases hx'
      exact (hq i hi).1 j u hu
    · intro x hx'
      obtain ⟨i, hi, rfl⟩ := List.mem_map.1 hx'
      exact (hq i (List.mem_range.1 hi)).2

/-- The fields of a struct, each by itself. -/
theorem opens_struct {fs : Array Field} (ht : P.underlying t = some (.struct fs)) (R : Nat → List Value → Prop) (h : ∀ j f, fs[j]? = some f → Opens P w f.type (R j)) :
    Opens P w t (fun cs => cs.length = P.cellsOf t ∧ ∀ j f, fs[j]? = some f → R j ((cs.drop f.offset).take (P.cellsOf f.type))) := by
  intro H enc fuel cs x hx
  obtain ⟨xs, n, _, rfl, hl, hlen, hf⟩ := DataW.trod_struct ht hx
  refine ⟨hl, fun j f hj => ?_⟩
  have hjx : j < xs.length := by rw [hlen]; exact (Array.getElem?_eq_some_iff.1 hj).1
  have h1 := hf j f (by first | exact hj | simpa using hj)
  rw [List.getElem?_eq_getElem hjx] at h1
  exact h j f hj H enc n _ _ h1

theorem opens_ints {e : TypeId} {k : IntKind} (ht : P.underlying t = some (.slice e)) (he : P.underlying e = some (.int k)) (hc : P.cellsOf e = 1) : Opens P w t (fun cs => ∃ v xs, cs = [v] ∧ IRow k w v xs) := by
  intro H enc fuel cs x h
  rcases open_slice ht h with ⟨rfl, _⟩ | ⟨a, len, cap, m, n, D, Pl, rfl, _, hl, hm, hmm, _, hx⟩
  · exact ⟨_, [], rfl, IRow.nil k w⟩
  · obtain ⟨xs, hxs⟩ := irow_of_open (b := some a) (len := len) (cap := cap) ht he hc h
    exact ⟨_, xs, rfl, hxs⟩
end

section
variable {α : Type} {w w' : World} {sz : Nat} {f : α → List Value} {v : Value} {xs : List α}

theorem Seq.len (h : Seq w sz f v xs) : xs.length ≤ maxLen := by
  obtain ⟨_, _, _, h1, h2, _⟩ := h; omega
theorem Seq.of_len (h : Seq w sz f v xs) : ∃ ao cap, v = .slice ao xs.length cap := by
  obtain ⟨ao, cap, hv, _⟩ := h; exact ⟨ao, cap, hv⟩
/-- At a place: the block, and the cells of each element. -/
theorem Seq.at (h : Seq w sz f v xs) (h0 : 0 < xs.length) (hf : ∀ x, 0 < (f x).length) :
    ∃ b off cap, v = .slice (some ⟨b, off, none⟩) xs.length cap ∧ b < w.heap.size ∧ ∀ i x, xs[i]? = some x → ∀ j u, (f x)[j]? = some u → w.cell? ⟨b, off + i * sz + j, none⟩ = some u := by
  obtain ⟨ao, cap, rfl, h1, h2, h3, h4⟩ := h
  cases ao with
  | none => have := h3 rfl; omega
  | some a =>
    obtain ⟨b, off, spot⟩ := a
    have hc := h4 _ rfl 0 xs[0] (List.getElem?_eq_getElem h0) 0 _ (List.getElem?_eq_getElem (hf _))
    have hspot : spot = none := by simpa [Addr.add] using World.cell?_spot hc
    subst hspot
    refine ⟨b, off, cap, rfl, World.block_lt_of_cell? w _ (by simpa [Addr.add] using hc), fun i x hi j u hu => ?_⟩
    have := h4 _ rfl i x hi j u hu
    simpa [Addr.add_lit, Nat.add_assoc] using this
end
end Go.Proofs.Ytgkmgpjhpplkiaa
