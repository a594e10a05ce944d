/-
  Plain matter of pack: what is packed is parsed; cut it is too short. By pairs of a writer and a reader that fit, put together.
-/
import Derived.Test.YtgkmgpjhpplkiaaPackP
namespace Go.Proofs.Ytgkmgpjhpplkiaa
open Go.RowKit
set_option linter.unusedVariables false

abbrev Dec (α : Type) := List Int → Option (α × List Int)
/-- The reader takes just what the writer wrote, and nothing of what was cut. -/
structure Good {α : Type} (enc : α → List Int) (dec : Dec α) (ok : α → Prop) : Prop where
  full : ∀ a, ok a → ∀ ys, dec (enc a ++ ys) = some (a, ys)
  short : ∀ a, ok a → ∀ n, n < (enc a).length → dec ((enc a).take n) = none

def seqE {α β : Type} (e1 : α → List Int) (e2 : β → List Int) : α × β → List Int := fun p => e1 p.1 ++ e2 p.2
def seqD {α β : Type} (d1 : Dec α) (d2 : Dec β) : Dec (α × β) := fun ys => (d1 ys).bind fun p => (d2 p.2).bind fun q => some ((p.1, q.1), q.2)
def mapD {α β : Type} (f : α → β) (d : Dec α) : Dec β := fun ys => (d ys).map fun p => (f p.1, p.2)

theorem Good.seq {α β : Type} {e1 : α → List Int} {d1 : Dec α} {o1 : α → Prop} {e2 : β → List Int} {d2 : Dec β} {o2 : β → Prop} (h1 : Good e1 d1 o1) (h2 : Good e2 d2 o2) :
    Good (seqE e1 e2) (seqD d1 d2) (fun p => o1 p.1 ∧ o2 p.2) where
  full := by
    rintro ⟨a, b⟩ ⟨ha, hb⟩ ys
    simp only [seqE, seqD]
    rw [List.append_assoc, h1.full a ha, Option.bind_some, h2.full b hb]
    rfl
  short := by
    rintro ⟨a, b⟩ ⟨ha, hb⟩ n hn
    simp only [seqE, List.length_append] at hn
    simp only [seqE, seqD]
    by_cases h : n < (e1 a).length
    · rw [List.take_append_of_le_length (by omega), h1.short a ha n h]; rfl
    · rw [List.take_append, List.take_of_length_le (by omega), h1.full a ha, Option.bind_some, h2.short b hb _ (by omega)]
      rfl
theorem Good.map {α β : Type} {e : α → List Int} {d : Dec α} {o : α → Prop} (h : Good e d o) (f : α → β) (g : β → α) (ok : β → Prop) (hg : ∀ b, ok b → o (g b) ∧ f (g b) = b) : Good (fun b => e (g b)) (mapD f d) ok where
  full := by
    intro b hb ys
    obtain ⟨h1, h2⟩ := hg b hb
    simp only [mapD]
    rw [h.full _ h1]
    simp [h2]
  short := by
    intro b hb n hn
    simp only [mapD]
    rw [h.short _ (hg b hb).1 n hn]
    rfl

/-! ### numbers, texts -/
def num8 : Dec Int := fun ys => if ys.length < 8 then none else some (wrapI (num (ys.take 8)), ys.drop 8)
def cnt4 : Dec Nat := fun ys => if ys.length < 4 then none else some ((num (ys.take 4)).toNat, ys.drop 4)
def cntE (n : Nat) : List Int := n4 (n : Int)
/-- A number that an int may be. -/
def In64 (v : Int) : Prop := -9223372036854775808 ≤ v ∧ v ≤ 9223372036854775807
theorem num_n8 (v : Int) : num (n8 v) = v % 18446744073709551616 := by
  unfold n8
  rw [num_low]
  show v % 18446744073709551616 % 18446744073709551616 = _
  omega
theorem wrap_n8 {v : Int} (h : In64 v) : wrapI (num (n8 v)) = v := by
  rw [num_n8]
  unfold wrapI wrap64
  unfold In64 at h
  omega
theorem num_n4 (n : Nat) (h : n < 4294967296) : (num (cntE n)).toNat = n := by
  unfold cntE n4
  rw [num_low]
  show ((n : Int) % 4294967296).toNat = n
  omega
theorem num8_good : Good n8 num8 In64 where
  full := by
    intro v hv ys
    unfold num8
    rw [if_neg (by rw [List.length_append, n8_length]; omega), List.take_append_of_le_length (by rw [n8_length]; exact Nat.le_refl _), List.take_of_length_le (by rw [n8_length]; exact Nat.le_refl _), wrap_n8 hv,
      List.drop_append, List.drop_of_length_le (by rw [n8_length]; exact Nat.le_refl _), n8_length]
    rfl
  short := by
    intro v hv n hn
    unfold num8
    rw [n8_length] at hn
    rw [if_pos (by rw [List.length_take]; omega)]
theorem cntE_length (n : Nat) : (cntE n).length = 4 := low_length _ _
theorem cnt4_good : Good cntE cnt4 (fun n => n < 4294967296) where
  full := by
    intro v hv ys
    unfold cnt4
    rw [if_neg (by rw [List.length_append, cntE_length]; omega), List.take_append_of_le_length (by rw [cntE_length]; exact Nat.le_refl _), List.take_of_length_le (by rw [cntE_length]; exact Nat.le_refl _), num_n4 v hv,
      List.drop_append, List.drop_of_length_le (by rw [cntE_length]; exact Nat.le_refl _), cntE_length]
    rfl
  short := by
    intro v hv n hn
    unfold cnt4
    rw [cntE_length] at hn
    rw [if_pos (by rw [List.length_take]; omega)]

/-- A count, and so much behind it. -/
def lenD {α : Type} (d : Nat → Dec α) : Dec α := fun ys => (cnt4 ys).bind fun p => d p.1 p.2
theorem Good.len {α : Type} {e : α → List Int} {d : Nat → Dec α} (n : α → Nat) {o : α → Prop} (ho : ∀ a, o a → n a < 4294967296) (hf : ∀ a, o a → ∀ ys, d (n a) (e a ++ ys) = some (a, ys)) (hs : ∀ a, o a → ∀ k, k < (e a).length → d (n a) ((e a).take k) = none) :
    Good (fun a => cntE (n a) ++ e a) (lenD d) o where
  full := by
    intro a ha ys
    unfold lenD
    rw [List.append_assoc, cnt4_good.full _ (ho a ha), Option.bind_some]
    exact hf a ha ys
  short := by
    intro a ha k hk
    unfold lenD
    rw [List.length_append] at hk
    by_cases h : k < (cntE (n a)).length
    · rw [List.take_append_of_le_length (by omega), cnt4_good.short _ (ho a ha) k h]; rfl
    · rw [List.take_append, List.take_of_length_le (by omega), cnt4_good.full _ (ho a ha), Option.bind_some]
      exact hs a ha _ (by omega)

def bytesD (n : Nat) : Dec ByteArray := fun ys => if ys.length < n then none else some (strOfNums (ys.take n), ys.drop n)
def txtD : Dec ByteArray := lenD bytesD
theorem txt_good : Good packT txtD (fun s => s.size < 4294967296) := by
  refine Good.len (fun s : ByteArray => s.size) (fun s h => h) ?_ ?_
  · intro s hs ys
    have hl := bytesIn_length s
    unfold bytesD
    rw [if_neg (by rw [List.length_append]; omega), List.take_append_of_le_length (by omega), List.take_of_length_le (by omega), strOfNums_bytesIn, List.drop_append, List.drop_of_length_le (by omega), hl, Nat.sub_self]
    rfl
  · intro s hs k hk
    unfold bytesD
    rw [bytesIn_length] at hk
    rw [if_pos (by rw [List.length_take]; omega)]

/-- So many of them. -/
def manyD {α : Type} (d : Dec α) : Nat → Dec (List α)
  | 0 => fun ys => some ([], ys)
  | n + 1 => fun ys => (d ys).bind fun p => (manyD d n p.2).bind fun q => some (p.1 :: q.1, q.2)
theorem many_full {α : Type} {e : α → List Int} {d : Dec α} {o : α → Prop} (h : Good e d o) (l : List α) (hl : ∀ a ∈ l, o a) (ys : List Int) : manyD d l.length (l.flatMap e ++ ys) = some (l, ys) := by
  induction l generalizing ys with
  | nil => rfl
  | cons a t ih =>
    simp only [List.length_cons, manyD, List.flatMap_cons, List.append_assoc]
    rw [h.full a (hl a (by simp)), Option.bind_some, ih (fun b hb => hl b (by simp [hb]))]
    rfl
theorem many_short {α : Type} {e : α → List Int} {d : Dec α} {o : α → Prop} (h : Good e d o) (l : List α) (hl : ∀ a ∈ l, o a) (k : Nat) (hk : k < (l.flatMap e).length) : manyD d l.length ((l.flatMap e).take k) = none := by
  induction l generalizing k with
  | nil => simp at hk
  | cons a t ih =>
    simp only [List.flatMap_cons, List.length_append] at hk
    simp only [List.length_cons, manyD, List.flatMap_cons]
    by_cases hka : k < (e a).length
    · rw [List.take_append_of_le_length (by omega), h.short a (hl a (by simp)) k hka]; rfl
    · rw [List.take_append, List.take_of_length_le (by omega), h.full a (hl a (by simp)), Option.bind_some, ih (fun b hb => hl b (by simp [hb])) _ (by omega)]
      rfl
def listD {α : Type} (d : Dec α) : Dec (List α) := lenD (manyD d)
theorem list_good {α : Type} {e : α → List Int} {d : Dec α} {o : α → Prop} (h : Good e d o) : Good (fun l => cntE l.length ++ l.flatMap e) (listD d) (fun l => l.length < 4294967296 ∧ ∀ a ∈ l, o a) :=
  Good.len (fun l : List α => l.length) (fun l h => h.1) (fun l hl ys => many_full h l hl.2 ys) (fun l hl k hk => many_short h l hl.2 k hk)

/-! ### entries, runs, inodes -/
def entD : Dec En := mapD (fun p => ⟨p.1, p.2⟩) (seqD txtD num8)
def EnOk (e : En) : Prop := e.s.size < 4294967296 ∧ In64 e.n
theorem ent_good : Good packE entD EnOk :=
  (txt_good.seq num8_good).map (fun p => (⟨p.1, p.2⟩ : En)) (fun e => (e.s, e.n)) EnOk (fun e h => ⟨h, rfl⟩)
def runD : Dec Rn := mapD (fun p => ⟨p.1.1, p.1.2, p.2⟩) (seqD (seqD num8 num8) num8)
def RnOk (r : Rn) : Prop := (In64 r.f ∧ In64 r.a) ∧ In64 r.n
theorem run_good : Good packR runD RnOk :=
  ((num8_good.seq num8_good).seq num8_good).map (fun p => (⟨p.1.1, p.1.2, p.2⟩ : Rn)) (fun r => ((r.f, r.a), r.n)) RnOk (fun r h => ⟨h, rfl⟩)
def inoD : Dec Ino := mapD (fun p => ⟨p.1.1.1.1.1.1, p.1.1.1.1.1.2, p.1.1.1.1.2, p.1.1.1.2, p.1.1.2, p.1.2, p.2⟩) (seqD (seqD (seqD (seqD (seqD (seqD num8 num8) num8) num8) txtD) (listD entD)) (listD runD))
def InOk (x : Ino) : Prop :=
  (((((In64 x.no ∧ In64 x.kind) ∧ In64 x.links) ∧ In64 x.size) ∧ x.t.size < 4294967296) ∧ (x.es.length < 4294967296 ∧ ∀ e ∈ x.es, EnOk e)) ∧ (x.rs.length < 4294967296 ∧ ∀ r ∈ x.rs, RnOk r)
theorem packI_eq (x : Ino) : packI x = seqE (seqE (seqE (seqE (seqE (seqE n8 n8) n8) n8) packT) (fun l : List En => cntE l.length ++ l.flatMap packE)) (fun l : List Rn => cntE l.length ++ l.flatMap packR) ((((((x.no, x.kind), x.links), x.size), x.t), x.es), x.rs) := by
  simp [packI, seqE, cntE, List.append_assoc]
theorem ino_good : Good packI inoD InOk := by
  have h := (((((((num8_good.seq num8_good).seq num8_good).seq num8_good).seq txt_good).seq (list_good ent_good)).seq (list_good run_good)).map
    (fun p => (⟨p.1.1.1.1.1.1, p.1.1.1.1.1.2, p.1.1.1.1.2, p.1.1.1.2, p.1.1.2, p.1.2, p.2⟩ : Ino)) (fun x => ((((((x.no, x.kind), x.links), x.size), x.t), x.es), x.rs)) InOk (fun x h => ⟨h, rfl⟩))
  have e : (fun x : Ino => seqE (seqE (seqE (seqE (seqE (seqE n8 n8) n8) n8) packT) (fun l : List En => cntE l.length ++ l.flatMap packE)) (fun l : List Rn => cntE l.length ++ l.flatMap packR) ((((((x.no, x.kind), x.links), x.size), x.t), x.es), x.rs)) = packI := funext fun x => (packI_eq x).symm
  rw [e] at h
  exact h
end Go.Proofs.Ytgkmgpjhpplkiaa
