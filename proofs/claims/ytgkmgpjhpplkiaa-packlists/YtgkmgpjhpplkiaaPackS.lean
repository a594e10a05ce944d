/-
  Plain matter of pack: a list that says that it has more than there is.
-/
import Derived.Test.YtgkmgpjhpplkiaaPackR
namespace Go.Proofs.Ytgkmgpjhpplkiaa
open Go.RowKit
set_option linter.unusedVariables false

/-- An inode, up to its lists. -/
def headE (x : Ino) : List Int := (((n8 x.no ++ n8 x.kind) ++ n8 x.links) ++ n8 x.size) ++ packT x.t
def HeadOk (x : Ino) : Prop := (((In64 x.no ∧ In64 x.kind) ∧ In64 x.links) ∧ In64 x.size) ∧ x.t.size < 4294967296
theorem pack_head (x : Ino) (he : x.es = []) (hr : x.rs = []) : packI x = headE x ++ (cntE 0 ++ cntE 0) := by
  unfold packI headE cntE
  rw [he, hr]
  simp [List.append_assoc]
theorem head_good : Good (seqE (seqE (seqE (seqE n8 n8) n8) n8) packT) (seqD (seqD (seqD (seqD num8 num8) num8) num8) txtD) (fun p => (((In64 p.1.1.1.1 ∧ In64 p.1.1.1.2) ∧ In64 p.1.1.2) ∧ In64 p.1.2) ∧ p.2.size < 4294967296) :=
  (((num8_good.seq num8_good).seq num8_good).seq num8_good).seq txt_good
theorem run_none : runD [] = none := rfl
theorem many_none {α : Type} (d : Dec α) (ys : List Int) (h : d ys = none) (n : Nat) (hn : 0 < n) : manyD d n ys = none := by
  obtain ⟨m, rfl⟩ : ∃ m, n = m + 1 := ⟨n - 1, by omega⟩
  simp only [manyD]
  rw [h]
  rfl
theorem ent_zero : entD (cntE 0) = none := by
  unfold entD mapD seqD txtD lenD
  have h := cnt4_good.full 0 (by omega) []
  rw [List.append_nil] at h
  rw [h]
  rfl
theorem ino_split (x : Ino) (hx : HeadOk x) (ys : List Int) : inoD (headE x ++ ys) = ((listD entD ys).bind fun p => (listD runD p.2).bind fun q => some ((⟨x.no, x.kind, x.links, x.size, x.t, p.1, q.1⟩ : Ino), q.2)) := by
  have h := head_good.full ((((x.no, x.kind), x.links), x.size), x.t) hx ys
  simp only [seqE] at h
  unfold inoD mapD headE
  simp only [seqD] at h ⊢
  generalize hq : (((num8 ((((n8 x.no ++ n8 x.kind) ++ n8 x.links) ++ n8 x.size) ++ packT x.t ++ ys)).bind fun p => (num8 p.2).bind fun q => some ((p.1, q.1), q.2)).bind fun p => (num8 p.2).bind fun q => some ((p.1, q.1), q.2)) = A at *
  cases A with
  | none => simp at h
  | some a =>
    simp only [Option.bind_some] at h ⊢
    cases hB : num8 a.2 with
    | none => rw [hB] at h; simp at h
    | some b =>
      rw [hB] at h
      simp only [Option.bind_some] at h ⊢
      cases hC : txtD b.2 with
      | none => rw [hC] at h; simp at h
      | some c =>
        rw [hC] at h
        simp only [Option.bind_some, Option.some.injEq, Prod.mk.injEq] at h
        obtain ⟨⟨⟨h1, h2⟩, h3⟩, h6⟩ := h
        simp only [Option.bind_some]
        rw [h6]
        cases hD : listD entD ys with
        | none => rfl
        | some p =>
          simp only [Option.bind_some]
          cases hE : listD runD p.2 with
          | none => rfl
          | some q => simp [h1, h2, h3]
theorem list_runs (n : Nat) (h0 : 0 < n) (h1 : n < 4294967296) : listD runD (cntE n) = none := by
  unfold listD lenD
  have h := cnt4_good.full n h1 []
  rw [List.append_nil] at h
  rw [h, Option.bind_some]
  exact many_none _ _ run_none n h0
theorem list_ents (n : Nat) (h0 : 0 < n) (h1 : n < 4294967296) : listD entD (cntE n ++ cntE 0) = none := by
  unfold listD lenD
  rw [cnt4_good.full n h1, Option.bind_some]
  exact many_none _ _ ent_zero n h0
theorem list_zero (ys : List Int) : listD entD (cntE 0 ++ ys) = some ([], ys) := by
  unfold listD lenD
  rw [cnt4_good.full 0 (by omega), Option.bind_some]
  rfl
theorem parse_two (ys : List Int) (h : inoD ys = none) : parseS (2 :: ys) = ([], 3) := by
  unfold parseS
  rw [List.length_cons, unS, if_neg (by omega)]
  have : deedD 2 ys = none := by
    unfold deedD mapD
    rw [if_neg (by decide), h]
    rfl
  rw [this]
/-- More runs than there are. -/
theorem lists_runs (x : Ino) (hx : HeadOk x) (n : Nat) (h0 : 0 < n) (h1 : n < 4294967296) : parseS (2 :: (headE x ++ (cntE 0 ++ cntE n))) = ([], 3) := by
  refine parse_two _ ?_
  rw [ino_split x hx, list_zero, Option.bind_some]
  dsimp only
  rw [list_runs n h0 h1]
  rfl
/-- More entries than there are. -/
theorem lists_ents (x : Ino) (hx : HeadOk x) (n : Nat) (h0 : 0 < n) (h1 : n < 4294967296) : parseS (2 :: (headE x ++ (cntE n ++ cntE 0))) = ([], 3) := by
  refine parse_two _ ?_
  rw [ino_split x hx, list_ents n h0 h1]
  rfl
end Go.Proofs.Ytgkmgpjhpplkiaa
