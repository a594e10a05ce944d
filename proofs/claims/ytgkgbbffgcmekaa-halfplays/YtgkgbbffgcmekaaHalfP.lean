/-
  Plain matter of half a chip: its bytes, a wipe of its sectors (the last one first), a record that is appended.
-/
import Derived.Test.YtgkgbbffgcmekaaNorK
import Derived.Test.YtgkgbbffgcmekaaFrameC
namespace Go.Proofs.Ytgkgbbffgcmekaa
open Go.RowKit
set_option linter.unusedVariables false

/-- How many sectors, and bytes, a half has. -/
def halfN (N : NSt) : Nat := N.A / 2
def halfZ (N : NSt) : Nat := N.A / 2 * N.B
def isHalf (h : Int) : Bool := decide (h = 0) || decide (h = 1)
def readH (N : NSt) (h : Int) : Int × List Int := if isHalf h then readS N.bs (h * (halfZ N : Int)) (halfZ N) else (1, [])
def wipeF (h n : Nat) : Nat → PSt → NSt → Int × PSt × NSt
  | 0, S, N => (0, S, N)
  | k + 1, S, N => if (eraseA S N ((h * n + k : Nat) : Int)).1 = 0 then wipeF h n k (eraseA S N ((h * n + k : Nat) : Int)).2.1 (eraseA S N ((h * n + k : Nat) : Int)).2.2 else eraseA S N ((h * n + k : Nat) : Int)
def wipeH (S : PSt) (N : NSt) (h : Int) : Int × PSt × NSt := if isHalf h then wipeF h.toNat (halfN N) (halfN N) S N else (1, S, N)
def progR (S : PSt) (bs : List Int) (p : Int) (b : List Int) : Int × PSt × List Int :=
  if (progA S bs p b).1 = 0 then progA (progA S bs p b).2.1 (progA S bs p b).2.2 (p + (b.length : Int)) [0] else progA S bs p b
def appH (S : PSt) (N : NSt) (h q : Int) (b : List Int) : Int × PSt × List Int :=
  if isHalf h = false ∨ q < 0 then (1, S, N.bs) else if 65000 < b.length then (21, S, N.bs) else if (halfZ N : Int) - q < (b.length : Int) + 7 then (10, S, N.bs)
  else progR S N.bs (h * (halfZ N : Int) + q) (bodyB b)

/-- Of the same make. -/
structure SameG (N M : NSt) : Prop where
  A : M.A = N.A
  B : M.B = N.B
  c : M.c = N.c
  d : M.d = N.d
  e : M.e = N.e
theorem SameG.refl (N : NSt) : SameG N N := ⟨rfl, rfl, rfl, rfl, rfl⟩
theorem SameG.trans {N M K : NSt} (h : SameG N M) (k : SameG M K) : SameG N K := ⟨k.A.trans h.A, k.B.trans h.B, k.c.trans h.c, k.d.trans h.d, k.e.trans h.e⟩
theorem eraseA_geo (S : PSt) (N : NSt) (s : Int) : SameG N (eraseA S N s).2.2 := by
  unfold eraseA
  repeat' split
  all_goals exact ⟨rfl, rfl, rfl, rfl, rfl⟩
theorem wipeF_geo (h n k : Nat) (S : PSt) (N : NSt) : SameG N (wipeF h n k S N).2.2 := by
  induction k generalizing S N with
  | zero => exact SameG.refl N
  | succ k ih =>
    rw [wipeF]
    split
    · exact (eraseA_geo _ _ _).trans (ih _ _)
    · exact eraseA_geo _ _ _
theorem wipeH_geo (S : PSt) (N : NSt) (h : Int) : SameG N (wipeH S N h).2.2 := by
  unfold wipeH
  split
  · exact wipeF_geo _ _ _ _ _
  · exact SameG.refl N
theorem wipeF_ok (h n k : Nat) {S : PSt} {N : NSt} {m : Nat} (hS : S.Ok m) (hN : N.Ok m) : (wipeF h n k S N).2.1.Ok (m + k) ∧ (wipeF h n k S N).2.2.Ok (m + k) := by
  induction k generalizing S N m with
  | zero => exact ⟨hS, hN⟩
  | succ k ih =>
    have h1 := eraseA_ok (s := ((h * n + k : Nat) : Int)) hS hN
    rw [wipeF]
    split
    · have := ih h1.1 h1.2
      exact ⟨this.1.more (by omega), this.2.more (by omega)⟩
    · exact ⟨h1.1.more (by omega), h1.2.more (by omega)⟩
theorem wipeH_ok {S : PSt} {N : NSt} {m : Nat} (h : Int) (hS : S.Ok m) (hN : N.Ok m) : (wipeH S N h).2.1.Ok (m + 8) ∧ (wipeH S N h).2.2.Ok (m + 8) := by
  unfold wipeH
  split
  · have := wipeF_ok h.toNat (halfN N) (halfN N) hS hN
    have hA := hN.A1
    have : halfN N ≤ 8 := by unfold halfN; omega
    rename_i h1 h2
    exact ⟨h2.1.more (by omega), h2.2.more (by omega)⟩
  · exact ⟨hS.more (by omega), hN.more (by omega)⟩
theorem halfZ_big {N : NSt} {n : Nat} (ok : N.Ok n) : 256 ≤ halfZ N ∧ halfZ N ≤ 32768 ∧ 2 * halfZ N ≤ N.A * N.B := by
  have h1 := ok.A0
  have h2 := ok.A1
  have h3 := ok.B0
  have h4 := ok.B1
  unfold halfZ
  have e1 : 1 * 256 ≤ N.A / 2 * N.B := Nat.mul_le_mul (by omega) h3
  have e2 : N.A / 2 * N.B ≤ 8 * 4096 := Nat.mul_le_mul (by omega) h4
  have e3 : 2 * (N.A / 2) * N.B ≤ N.A * N.B := Nat.mul_le_mul_right _ (by omega)
  rw [Nat.mul_assoc] at e3
  omega
theorem progR_ok {S : PSt} {bs : List Int} {p : Int} {n : Nat} {b : List Int} (hS : S.Ok n) (hb : Bys bs) (hx : Bys b) : (progR S bs p b).2.1.Ok (n + b.length + 1) ∧ (progR S bs p b).2.2.length = bs.length ∧ Bys (progR S bs p b).2.2 := by
  have h1 := progA_ok (p := p) hS hb hx
  unfold progR
  split
  · have h2 := progA_ok (p := p + (b.length : Int)) (b := [0]) h1.1 h1.2.2 (by intro x hx; simp at hx; omega)
    exact ⟨h2.1.more (by simp), h2.2.1.trans h1.2.1, h2.2.2⟩
  · exact ⟨h1.1.more (by omega), h1.2⟩
theorem appH_ok {S : PSt} {N : NSt} {h q : Int} {n : Nat} {b : List Int} (hS : S.Ok n) (hN : N.Ok n) (hx : Bys b) : (appH S N h q b).2.1.Ok (n + b.length + 7) ∧ NSt.Ok { N with bs := (appH S N h q b).2.2 } (n + b.length + 7) := by
  unfold appH
  have h0 : S.Ok (n + b.length + 7) := hS.more (by omega)
  have h1 : N.Ok (n + b.length + 7) := hN.more (by omega)
  split
  · exact ⟨h0, h1⟩
  · split
    · exact ⟨h0, h1⟩
    · split
      · exact ⟨h0, h1⟩
      · have h2 := progR_ok (p := h * (halfZ N : Int) + q) hS hN.bys (bodyB_bys hx)
        rw [bodyB_length] at h2
        exact ⟨h2.1.more (by omega), h1.bytes h2.2.1 h2.2.2⟩
theorem progA_code (S : PSt) (bs : List Int) (p : Int) (b : List Int) : (progA S bs p b).1 = 0 ∨ (progA S bs p b).1 = 1 ∨ (progA S bs p b).1 = 6 ∨ (progA S bs p b).1 = 9 := by
  have key : ∀ (b : List Int) (S : PSt) (bs : List Int) (p : Nat), (progS S bs p b).1 = 0 ∨ (progS S bs p b).1 = 6 := by
    intro b
    induction b with
    | nil => intro S bs p; exact .inl rfl
    | cons x r ih =>
      intro S bs p
      simp only [progS]
      split
      · exact ih _ _ _
      · split <;> exact .inr rfl
  unfold progA
  split
  · split
    · exact .inr (.inr (.inr rfl))
    · rcases key b S bs p.toNat with h | h
      · exact .inl h
      · exact .inr (.inr (.inl h))
  · exact .inr (.inl rfl)
theorem eraseA_code (S : PSt) (N : NSt) (s : Int) : (eraseA S N s).1 = 0 ∨ (eraseA S N s).1 = 1 ∨ (eraseA S N s).1 = 6 := by
  unfold eraseA
  repeat' split
  all_goals simp
end Go.Proofs.Ytgkgbbffgcmekaa
