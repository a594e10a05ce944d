/-
  Readers that walk a place along, and decoders: they tell the same; composed. An inode.
-/
import Derived.Test.YtgkmgpjhpplkiaaPackG
namespace Go.Proofs.Ytgkmgpjhpplkiaa
open Go.RowKit
set_option linter.unusedVariables false
set_option maxRecDepth 100000

/-- The reader r tells what the decoder d tells. -/
structure Rds {α : Type} (xs : List Int) (d : Dec α) (r : Rd → α × Rd) : Prop where
  yes : ∀ (a : Nat) v ys, a ≤ xs.length → d (xs.drop a) = some (v, ys) → ∃ a' : Nat, r ⟨a, false⟩ = (v, ⟨a', false⟩) ∧ ys = xs.drop a' ∧ a ≤ a' ∧ a' ≤ xs.length
  no : ∀ a : Nat, a ≤ xs.length → d (xs.drop a) = none → (r ⟨a, false⟩).2.bad = true
  bad : ∀ s, s.bad = true → (r s).2.bad = true
def seqR {α β : Type} (r1 : Rd → α × Rd) (r2 : Rd → β × Rd) : Rd → (α × β) × Rd := fun s => (((r1 s).1, (r2 (r1 s).2).1), (r2 (r1 s).2).2)
/-- The second only where the first was there. -/
def seqG {α β : Type} [Inhabited β] (r1 : Rd → α × Rd) (r2 : Rd → β × Rd) : Rd → (α × β) × Rd := fun s => if (r1 s).2.bad then (((r1 s).1, default), (r1 s).2) else seqR r1 r2 s
def mapR {α β : Type} (f : α → β) (r : Rd → α × Rd) : Rd → β × Rd := fun s => (f (r s).1, (r s).2)
def manyR {α : Type} (r : Rd → α × Rd) : Nat → Rd → List α × Rd
  | 0, s => ([], s)
  | n + 1, s => if s.bad then ([], s) else ((r s).1 :: (manyR r n (r s).2).1, (manyR r n (r s).2).2)
def lenR {α : Type} (xs : List Int) (r : Nat → Rd → α × Rd) : Rd → α × Rd := fun s => r (rdMany xs s).1.toNat (rdMany xs s).2

theorem Rds.seq {α β : Type} {xs : List Int} {d1 : Dec α} {d2 : Dec β} {r1 : Rd → α × Rd} {r2 : Rd → β × Rd} (h1 : Rds xs d1 r1) (h2 : Rds xs d2 r2) : Rds xs (seqD d1 d2) (seqR r1 r2) where
  yes := by
    intro a v ys ha h
    unfold seqD at h
    cases hc : d1 (xs.drop a) with
    | none => rw [hc] at h; cases h
    | some p =>
      obtain ⟨u, zs⟩ := p
      obtain ⟨a1, e1, rfl, l0, l1⟩ := h1.yes a u zs ha hc
      rw [hc, Option.bind_some] at h
      dsimp only at h
      cases hd : d2 (xs.drop a1) with
      | none => rw [hd] at h; cases h
      | some q =>
        obtain ⟨t, ts⟩ := q
        obtain ⟨a2, e2, rfl, l2, l3⟩ := h2.yes a1 t ts l1 hd
        rw [hd, Option.bind_some] at h
        simp only [Option.some.injEq, Prod.mk.injEq] at h
        obtain ⟨rfl, rfl⟩ := h
        refine ⟨a2, ?_, rfl, by omega, l3⟩
        unfold seqR
        rw [e1, e2]
  no := by
    intro a ha h
    unfold seqD at h
    unfold seqR
    cases hc : d1 (xs.drop a) with
    | none => exact h2.bad _ (h1.no a ha hc)
    | some p =>
      obtain ⟨u, zs⟩ := p
      obtain ⟨a1, e1, rfl, l0, l1⟩ := h1.yes a u zs ha hc
      rw [hc, Option.bind_some] at h
      dsimp only at h
      cases hd : d2 (xs.drop a1) with
      | none => rw [e1]; exact h2.no a1 l1 hd
      | some q => rw [hd] at h; cases h
  bad := fun s hs => h2.bad _ (h1.bad s hs)
theorem Rds.seqG {α β : Type} [Inhabited β] {xs : List Int} {d1 : Dec α} {d2 : Dec β} {r1 : Rd → α × Rd} {r2 : Rd → β × Rd} (h1 : Rds xs d1 r1) (h2 : Rds xs d2 r2) : Rds xs (seqD d1 d2) (seqG r1 r2) where
  yes := by
    intro a v ys ha h
    obtain ⟨a', e, hy, hl⟩ := (h1.seq h2).yes a v ys ha h
    refine ⟨a', ?_, hy, hl⟩
    have hb : (r1 ⟨a, false⟩).2.bad = false := by
      cases hx : (r1 ⟨a, false⟩).2.bad with
      | false => rfl
      | true =>
        have := h2.bad _ hx
        have h3 := congrArg (fun p => p.2.bad) e
        unfold seqR at h3
        dsimp only at h3
        rw [this] at h3
        cases h3
    unfold Proofs.Ytgkmgpjhpplkiaa.seqG
    rw [if_neg (by rw [hb]; simp), e]
  no := by
    intro a ha h
    have h3 := (h1.seq h2).no a ha h
    unfold Proofs.Ytgkmgpjhpplkiaa.seqG
    split
    · assumption
    · exact h3
  bad := by
    intro s hs
    unfold Proofs.Ytgkmgpjhpplkiaa.seqG
    rw [if_pos (h1.bad s hs)]
    exact h1.bad s hs
theorem Rds.map {α β : Type} {xs : List Int} {d : Dec α} {r : Rd → α × Rd} (h : Rds xs d r) (f : α → β) : Rds xs (mapD f d) (mapR f r) where
  yes := by
    intro a v ys ha hd
    unfold mapD at hd
    cases hc : d (xs.drop a) with
    | none => rw [hc] at hd; cases hd
    | some p =>
      obtain ⟨u, zs⟩ := p
      obtain ⟨a1, e1, rfl, l1⟩ := h.yes a u zs ha hc
      rw [hc] at hd
      simp only [Option.map_some, Option.some.injEq, Prod.mk.injEq] at hd
      obtain ⟨rfl, rfl⟩ := hd
      refine ⟨a1, ?_, rfl, l1⟩
      unfold mapR
      rw [e1]
  no := by
    intro a ha hd
    unfold mapD at hd
    cases hc : d (xs.drop a) with
    | none => exact h.no a ha hc
    | some p => rw [hc] at hd; cases hd
  bad := fun s hs => h.bad s hs
theorem Rds.many {α : Type} {xs : List Int} {d : Dec α} {r : Rd → α × Rd} (h : Rds xs d r) (n : Nat) : Rds xs (manyD d n) (manyR r n) := by
  induction n with
  | zero => exact ⟨fun a v ys ha e => by
      simp only [manyD, Option.some.injEq, Prod.mk.injEq] at e
      obtain ⟨rfl, rfl⟩ := e
      exact ⟨a, rfl, rfl, Nat.le_refl _, ha⟩, fun a ha e => by simp [manyD] at e, fun s hs => hs⟩
  | succ n ih =>
    have e : ∀ s : Rd, s.bad = false → manyR r (n + 1) s = mapR (fun p => p.1 :: p.2) (seqR r (manyR r n)) s := by
      intro s hs
      rw [manyR, if_neg (by rw [hs]; simp)]
      rfl
    have hd : ∀ ys, manyD d (n + 1) ys = mapD (fun p => p.1 :: p.2) (seqD d (manyD d n)) ys := by
      intro ys
      show (d ys).bind (fun p => (manyD d n p.2).bind fun q => some (p.1 :: q.1, q.2)) = _
      unfold mapD seqD
      cases hq : d ys with
      | none => rfl
      | some p =>
        simp only [Option.bind_some]
        cases manyD d n p.2 <;> rfl
    have hh := (h.seq ih).map (fun p : α × List α => p.1 :: p.2)
    refine ⟨fun a v ys ha he => ?_, fun a ha he => ?_, fun s hs => ?_⟩
    · rw [e _ rfl]; rw [hd] at he; exact hh.yes a v ys ha he
    · rw [e _ rfl]; rw [hd] at he; exact hh.no a ha he
    · rw [manyR, if_pos hs]; exact hs
theorem Rds.len {α : Type} {xs : List Int} {d : Nat → Dec α} {r : Nat → Rd → α × Rd} (hb : Bys xs) (h : ∀ n, Rds xs (d n) (r n)) : Rds xs (lenD d) (lenR xs r) where
  yes := by
    intro a v ys ha hd
    unfold lenD at hd
    cases hc : cnt4 (xs.drop a) with
    | none => rw [hc] at hd; cases hd
    | some p =>
      obtain ⟨n, zs⟩ := p
      obtain ⟨e1, rfl, l1⟩ := rdMany_some (b := false) hb hc
      rw [hc, Option.bind_some] at hd
      obtain ⟨a2, e2, hy, l2, l3⟩ := (h n).yes (a + 4) v ys l1 hd
      refine ⟨a2, ?_, hy, by omega, l3⟩
      unfold lenR
      rw [e1]
      exact e2
  no := by
    intro a ha hd
    unfold lenD at hd
    unfold lenR
    cases hc : cnt4 (xs.drop a) with
    | none => exact (h _).bad _ (rdMany_none hc)
    | some p =>
      obtain ⟨n, zs⟩ := p
      obtain ⟨e1, rfl, l1⟩ := rdMany_some (b := false) hb hc
      rw [hc, Option.bind_some] at hd
      rw [e1]
      exact (h n).no (a + 4) l1 hd
  bad := fun s hs => (h _).bad _ (by unfold rdMany; simp [hs])
theorem num_rds (xs : List Int) : Rds xs num8 (rdNum xs) where
  yes := fun a v ys ha h => by
    obtain ⟨e, hy, hl⟩ := rdNum_some (b := false) h
    exact ⟨a + 8, e, hy, by omega, hl⟩
  no := fun a ha h => rdNum_none h
  bad := fun s hs => by unfold rdNum; simp [hs]
def rdStr (xs : List Int) : Rd → ByteArray × Rd := fun s => (strOfNums (rdText xs s).1, (rdText xs s).2)
theorem str_rds {xs : List Int} (hb : Bys xs) : Rds xs txtD (rdStr xs) where
  yes := fun a v ys ha h => by
    obtain ⟨l, hl, a', e, hy, h4, h5⟩ := rdText_some (b := false) hb h
    refine ⟨a', ?_, hy, by omega, h5⟩
    unfold rdStr
    rw [e]
    simp only [hl]
  no := fun a ha h => rdText_none hb h
  bad := fun s hs => by unfold rdStr rdText; simp [hs]

/-- An entry, a run, an inode. -/
def rdEnt (xs : List Int) : Rd → En × Rd := mapR (fun p => ⟨p.1, p.2⟩) (seqG (rdStr xs) (rdNum xs))
def rdRun (xs : List Int) : Rd → Rn × Rd := mapR (fun p => ⟨p.1.1, p.1.2, p.2⟩) (seqR (seqR (rdNum xs) (rdNum xs)) (rdNum xs))
def rdIno (xs : List Int) : Rd → Ino × Rd :=
  mapR (fun p => ⟨p.1.1.1.1.1.1, p.1.1.1.1.1.2, p.1.1.1.1.2, p.1.1.1.2, p.1.1.2, p.1.2, p.2⟩)
    (seqG (seqG (seqG (seqR (seqR (seqR (rdNum xs) (rdNum xs)) (rdNum xs)) (rdNum xs)) (rdStr xs)) (lenR xs (manyR (rdEnt xs)))) (lenR xs (manyR (rdRun xs))))
theorem ino_rds {xs : List Int} (hb : Bys xs) : Rds xs inoD (rdIno xs) :=
  Rds.map (((((((num_rds xs).seq (num_rds xs)).seq (num_rds xs)).seq (num_rds xs)).seqG (str_rds hb)).seqG (Rds.len hb fun n => Rds.many (((str_rds hb).seqG (num_rds xs)).map _) n)).seqG (Rds.len hb fun n => Rds.many ((((num_rds xs).seq (num_rds xs)).seq (num_rds xs)).map _) n)) _
end Go.Proofs.Ytgkmgpjhpplkiaa
