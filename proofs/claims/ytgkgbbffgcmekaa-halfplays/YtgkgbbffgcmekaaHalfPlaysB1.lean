import Derived.Test.YtgkgbbffgcmekaaNorK
import Derived.Test.YtgkgbbffgcmekaaFrameC
import Derived.Test.YtgkgbbffgcmekaaInts
import Derived.Test.YtgkgbbffgcmekaaNorQ
import Derived.Test.YtgkgbbffgcmekaaBlk
import Derived.Deep.RegionHeld3
import Derived.Test.YtgkgbbffgcmekaaKeptN
import Derived.Test.YtgkgbbffgcmekaaRefErase
import Derived.Test.YtgkgbbffgcmekaaHelp
import Derived.Test.YtgkgbbffgcmekaaMem2
import Derived.Test.YtgkgbbffgcmekaaCodecB
import Derived.OpenShut
import Derived.Test.YtgkgbbffgcmekaaSumA
import Derived.Test.YtgkgbbffgcmekaaNorC
import Derived.Test.YtgkgbbffgcmekaaOpen
/-
  Plain matter of half a chip: its bytes, a wipe of its sectors (the last one first), a record that is appended.
-/
namespace Go.Proofs.Ytgkgbbffgcmekaa
open Go.RowKit
set_option linter.unusedVariables false

/-- How many sectors, and bytes, a half has. -/
def halfN (N : NSt) : Nat := N.A / 2
def halfZ (N : NSt) : Nat := N.A / 2 * N.B
def isHalf (h : Int) : Bool := decide (h = 0) || decide (h = 1)
def readH (N : NSt) (h : Int) : Int × List Int := if isHalf h then readS N.bs (h * (halfZ N : Int)) (halfZ N) else (1, [])
def wipeF (h n : Nat) : Nat → PSt → NSt → Int × PSt × NSt
  | 0, S, N => (0, S, N)
  | k + 1, S, N => if (eraseA S N ((h * n + k : Nat) : Int)).1 = 0 then wipeF h n k (eraseA S N ((h * n + k : Nat) : Int)).2.1 (eraseA S N ((h * n + k : Nat) : Int)).2.2 else eraseA S N ((h * n + k : Nat) : Int)
def wipeH (S : PSt) (N : NSt) (h : Int) : Int × PSt × NSt := if isHalf h then wipeF h.toNat (halfN N) (halfN N) S N else (1, S, N)
def progR (S : PSt) (bs : List Int) (p : Int) (b : List Int) : Int × PSt × List Int :=
  if (progA S bs p b).1 = 0 then progA (progA S bs p b).2.1 (progA S bs p b).2.2 (p + (b.length : Int)) [0] else progA S bs p b
def appH (S : PSt) (N : NSt) (h q : Int) (b : List Int) : Int × PSt × List Int :=
  if isHalf h = false ∨ q < 0 then (1, S, N.bs) else if 65000 < b.length then (21, S, N.bs) else if (halfZ N : Int) - q < (b.length : Int) + 7 then (10, S, N.bs)
  else progR S N.bs (h * (halfZ N : Int) + q) (bodyB b)

/-- Of the same make. -/
structure SameG (N M : NSt) : Prop where
  A : M.A = N.A
  B : M.B = N.B
  c : M.c = N.c
  d : M.d = N.d
  e : M.e = N.e
theorem SameG.refl (N : NSt) : SameG N N := ⟨rfl, rfl, rfl, rfl, rfl⟩
theorem SameG.trans {N M K : NSt} (h : SameG N M) (k : SameG M K) : SameG N K := ⟨k.A.trans h.A, k.B.trans h.B, k.c.trans h.c, k.d.trans h.d, k.e.trans h.e⟩
theorem eraseA_geo (S : PSt) (N : NSt) (s : Int) : SameG N (eraseA S N s).2.2 := by
  unfold eraseA
  repeat' split
  all_goals exact ⟨rfl, rfl, rfl, rfl, rfl⟩
theorem wipeF_geo (h n k : Nat) (S : PSt) (N : NSt) : SameG N (wipeF h n k S N).2.2 := by
  induction k generalizing S N with
  | zero => exact SameG.refl N
  | succ k ih =>
    rw [wipeF]
    split
    · exact (eraseA_geo _ _ _).trans (ih _ _)
    · exact eraseA_geo _ _ _
theorem wipeH_geo (S : PSt) (N : NSt) (h : Int) : SameG N (wipeH S N h).2.2 := by
  unfold wipeH
  split
  · exact wipeF_geo _ _ _ _ _
  · exact SameG.refl N
theorem wipeF_ok (h n k : Nat) {S : PSt} {N : NSt} {m : Nat} (hS : S.Ok m) (hN : N.Ok m) : (wipeF h n k S N).2.1.Ok (m + k) ∧ (wipeF h n k S N).2.2.Ok (m + k) := by
  induction k generalizing S N m with
  | zero => exact ⟨hS, hN⟩
  | succ k ih =>
    have h1 := eraseA_ok (s := ((h * n + k : Nat) : Int)) hS hN
    rw [wipeF]
    split
    · have := ih h1.1 h1.2
      exact ⟨this.1.more (by omega), this.2.more (by omega)⟩
    · exact ⟨h1.1.more (by omega), h1.2.more (by omega)⟩
theorem wipeH_ok {S : PSt} {N : NSt} {m : Nat} (h : Int) (hS : S.Ok m) (hN : N.Ok m) : (wipeH S N h).2.1.Ok (m + 8) ∧ (wipeH S N h).2.2.Ok (m + 8) := by
  unfold wipeH
  split
  · have := wipeF_ok h.toNat (halfN N) (halfN N) hS hN
    have hA := hN.A1
    have : halfN N ≤ 8 := by unfold halfN; omega
    rename_i h1 h2
    exact ⟨h2.1.more (by omega), h2.2.more (by omega)⟩
  · exact ⟨hS.more (by omega), hN.more (by omega)⟩
theorem halfZ_big {N : NSt} {n : Nat} (ok : N.Ok n) : 256 ≤ halfZ N ∧ halfZ N ≤ 32768 ∧ 2 * halfZ N ≤ N.A * N.B := by
  have h1 := ok.A0
  have h2 := ok.A1
  have h3 := ok.B0
  have h4 := ok.B1
  unfold halfZ
  have e1 : 1 * 256 ≤ N.A / 2 * N.B := Nat.mul_le_mul (by omega) h3
  have e2 : N.A / 2 * N.B ≤ 8 * 4096 := Nat.mul_le_mul (by omega) h4
  have e3 : 2 * (N.A / 2) * N.B ≤ N.A * N.B := Nat.mul_le_mul_right _ (by omega)
  rw [Nat.mul_assoc] at e3
  omega
theorem progR_ok {S : PSt} {bs : List Int} {p : Int} {n : Nat} {b : List Int} (hS : S.Ok n) (hb : Bys bs) (hx : Bys b) : (progR S bs p b).2.1.Ok (n + b.length + 1) ∧ (progR S bs p b).2.2.length = bs.length ∧ Bys (progR S bs p b).2.2 := by
  have h1 := progA_ok (p := p) hS hb hx
  unfold progR
  split
  · have h2 := progA_ok (p := p + (b.length : Int)) (b := [0]) h1.1 h1.2.2 (by intro x hx; simp at hx; omega)
    exact ⟨h2.1.more (by simp), h2.2.1.trans h1.2.1, h2.2.2⟩
  · exact ⟨h1.1.more (by omega), h1.2⟩
theorem appH_ok {S : PSt} {N : NSt} {h q : Int} {n : Nat} {b : List Int} (hS : S.Ok n) (hN : N.Ok n) (hx : Bys b) : (appH S N h q b).2.1.Ok (n + b.length + 7) ∧ NSt.Ok { N with bs := (appH S N h q b).2.2 } (n + b.length + 7) := by
  unfold appH
  have h0 : S.Ok (n + b.length + 7) := hS.more (by omega)
  have h1 : N.Ok (n + b.length + 7) := hN.more (by omega)
  split
  · exact ⟨h0, h1⟩
  · split
    · exact ⟨h0, h1⟩
    · split
      · exact ⟨h0, h1⟩
      · have h2 := progR_ok (p := h * (halfZ N : Int) + q) hS hN.bys (bodyB_bys hx)
        rw [bodyB_length] at h2
        exact ⟨h2.1.more (by omega), h1.bytes h2.2.1 h2.2.2⟩
theorem progA_code (S : PSt) (bs : List Int) (p : Int) (b : List Int) : (progA S bs p b).1 = 0 ∨ (progA S bs p b).1 = 1 ∨ (progA S bs p b).1 = 6 ∨ (progA S bs p b).1 = 9 := by
  have key : ∀ (b : List Int) (S : PSt) (bs : List Int) (p : Nat), (progS S bs p b).1 = 0 ∨ (progS S bs p b).1 = 6 := by
    intro b
    induction b with
    | nil => intro S bs p; exact .inl rfl
    | cons x r ih =>
      intro S bs p
      simp only [progS]
      split
      · exact ih _ _ _
      · split <;> exact .inr rfl
  unfold progA
  split
  · split
    · exact .inr (.inr (.inr rfl))
    · rcases key b S bs p.toNat with h | h
      · exact .inl h
      · exact .inr (.inr (.inl h))
  · exact .inr (.inl rfl)
theorem eraseA_code (S : PSt) (N : NSt) (s : Int) : (eraseA S N s).1 = 0 ∨ (eraseA S N s).1 = 1 ∨ (eraseA S N s).1 = 6 := by
  unfold eraseA
  repeat' split
  all_goals simp
end Go.Proofs.Ytgkgbbffgcmekaa

/-
  Plain laws on records: a torn end, a byte that is another one.
-/
namespace Go.Proofs.Ytgkgbbffgcmekaa
open Go.RowKit
set_option linter.unusedVariables false
set_option linter.unusedSimpArgs false

theorem saidN_two {ys : List Int} {a b : Int} (h0 : ys.getD 0 0 = a) (h1 : ys.getD 1 0 = b) : saidN ys = (a + b * 256).toNat := by rw [saidN, h0, h1]
theorem getD_left {xs ys : List Int} {i : Nat} (h : i < xs.length) : (xs ++ ys).getD i 0 = xs.getD i 0 := by simp [List.getD, List.getElem?_append_left h]
theorem getD_right {xs ys : List Int} {i : Nat} (h : xs.length ≤ i) : (xs ++ ys).getD i 0 = ys.getD (i - xs.length) 0 := by simp [List.getD, List.getElem?_append_right h]
theorem getD_rep7 {n i : Nat} {x : Int} (h : i < n) : (List.replicate n x).getD i 0 = x := by simp [List.getD, h]
theorem getD_take7 {xs : List Int} {i n : Nat} (h : i < n) : (xs.take n).getD i 0 = xs.getD i 0 := by simp [List.getD, List.getElem?_take, h]
theorem getD_set_ne7 {xs : List Int} {t i : Nat} {v : Int} (h : t ≠ i) : (xs.set t v).getD i 0 = xs.getD i 0 := by
  unfold List.getD
  rw [List.getElem?_set_ne h]
theorem bodyB_two (b : List Int) (hl : b.length ≤ 65000) : (bodyB b).getD 0 0 = (b.length : Int) % 256 ∧ (bodyB b).getD 1 0 = (b.length : Int) / 256 := by
  have e : bodyB b = lenB b ++ (low (fsum b) 4 ++ b) := by simp [bodyB]
  rw [e, lenB_two]
  refine ⟨rfl, ?_⟩
  show (b.length : Int) / 256 % 256 = _
  omega
theorem firstS_none {ys : List Int} (h : 7 ≤ ys.length → saidN ys ≤ 65000 → saidN ys + 7 ≤ ys.length → ys.getD (saidN ys + 6) 0 = 0 → fsum ((ys.drop 6).take (saidN ys)) ≠ num ((ys.drop 2).take 4)) : firstS ys = none := by
  cases hf : firstS ys with
  | none => rfl
  | some b =>
    obtain ⟨h1, h2, h3, h4, rfl, h5, _⟩ := firstS_some hf
    exact absurd h5 (h h1 h2 h3 h4)
/-- Wherever the end is torn, no record stands there. -/
theorem firstS_torn (b : List Int) (hl : b.length ≤ 65000) (t z : Nat) (ht : t ≤ b.length + 6) : firstS ((bodyB b).take t ++ List.replicate z 255) = none := by
  have hbl := bodyB_length b
  have hlt : ((bodyB b).take t).length = t := by rw [List.length_take]; omega
  obtain ⟨b0, b1⟩ := bodyB_two b hl
  refine firstS_none (fun h7 hs hn hf => ?_)
  rw [List.length_append, hlt, List.length_replicate] at h7 hn
  exfalso
  rcases Nat.lt_or_ge t 2 with h2 | h2
  · have e1 : ((bodyB b).take t ++ List.replicate z 255).getD 1 0 = 255 := by
      rw [getD_right (by omega), hlt, getD_rep7 (by omega)]
    have e0 : 0 ≤ ((bodyB b).take t ++ List.replicate z 255).getD 0 0 := by
      rcases Nat.lt_or_ge 0 t with h0 | h0
      · rw [getD_left (by omega), getD_take7 h0, b0]; omega
      · rw [getD_right (by omega), hlt, getD_rep7 (by omega)]; omega
    rw [saidN_two rfl e1] at hs
    omega
  · have hsd : saidN ((bodyB b).take t ++ List.replicate z 255) = b.length := by
      rw [saidN_two (a := (b.length : Int) % 256) (b := (b.length : Int) / 256) (by rw [getD_left (by omega), getD_take7 (by omega), b0]) (by rw [getD_left (by omega), getD_take7 (by omega), b1])]
      omega
    rw [hsd] at hf hn
    rw [getD_right (by omega), hlt, getD_rep7 (by omega)] at hf
    omega
theorem num_inj {xs ys : List Int} (hx : Bys xs) (hy : Bys ys) (hl : xs.length = ys.length) (h : num xs = num ys) : xs = ys := by
  rw [← low_num hx, ← low_num hy, h, hl]
theorem set_getD {xs : List Int} {i : Nat} {v : Int} (hi : i < xs.length) (h : xs.set i v = xs) : v = xs.getD i 0 := by
  have := congrArg (fun l => l.getD i 0) h
  simp [List.getD, hi] at this
  simpa [List.getD, hi] using this
/-- A byte that is another one, behind the length, takes the record away. -/
theorem firstS_spoilt (b rest : List Int) (hb : Bys b) (hl : b.length ≤ 65000) (t : Nat) (v : Int) (h2 : 2 ≤ t) (ht : t < b.length + 7) (hv : 0 ≤ v ∧ v < 256) (hne : v ≠ (recB b).getD t 0) : firstS ((recB b).set t v ++ rest) = none := by
  have hrl := recB_length b
  have hbl := bodyB_length b
  have hll := lenB_length b
  obtain ⟨b0, b1⟩ := bodyB_two b hl
  have hsl : ((recB b).set t v).length = b.length + 7 := by rw [List.length_set, hrl]
  have g0 : ((recB b).set t v ++ rest).getD 0 0 = (b.length : Int) % 256 := by
    rw [getD_left (by omega), ← b0, recB]
    have : ((bodyB b ++ [0]).set t v).getD 0 0 = (bodyB b ++ [0]).getD 0 0 := getD_set_ne7 (by omega)
    rw [this, getD_left (by omega)]
  have g1 : ((recB b).set t v ++ rest).getD 1 0 = (b.length : Int) / 256 := by
    rw [getD_left (by omega), ← b1, recB]
    have : ((bodyB b ++ [0]).set t v).getD 1 0 = (bodyB b ++ [0]).getD 1 0 := getD_set_ne7 (by omega)
    rw [this, getD_left (by omega)]
  have hsd : saidN ((recB b).set t v ++ rest) = b.length := by
    rw [saidN_two g0 g1]
    omega
  refine firstS_none (fun h7 _ _ hf => ?_)
  rw [hsd] at hf ⊢
  rw [getD_left (by omega)] at hf
  rcases Nat.lt_or_ge t (b.length + 6) with h6 | h6
  · -- the flag stands: the sum, or a byte, is another one
    rcases Nat.lt_or_ge t 6 with ht6 | ht6
    · -- the sum
      have e : (recB b).set t v ++ rest = lenB b ++ ((low (fsum b) 4).set (t - 2) v ++ (b ++ ([0] ++ rest))) := by
        rw [recB, bodyB, List.append_assoc, List.append_assoc, List.set_append_right _ _ (by omega), hll, List.set_append_left _ _ (by rw [low_length]; omega)]
        simp
      have hq : ((recB b).set t v ++ rest).drop 2 = (low (fsum b) 4).set (t - 2) v ++ (b ++ ([0] ++ rest)) := by rw [e, List.drop_left' hll]
      have hm : (((recB b).set t v ++ rest).drop 2).take 4 = (low (fsum b) 4).set (t - 2) v := by rw [hq, List.take_left' (by rw [List.length_set, low_length])]
      have hd : ((recB b).set t v ++ rest).drop 6 = b ++ ([0] ++ rest) := by
        rw [show (6 : Nat) = 2 + 4 from rfl, ← List.drop_drop, hq, List.drop_left' (by rw [List.length_set, low_length])]
      rw [hd, List.take_left, hm]
      intro h
      have hr := fsum_range b
      have hn : num (low (fsum b) 4) = fsum b := by rw [num_low, Int.emod_eq_of_lt hr.1 (by simpa using hr.2)]
      have hbs : Bys ((low (fsum b) 4).set (t - 2) v) := by
        intro x hx
        rcases List.mem_or_eq_of_mem_set hx with h' | rfl
        · exact low_bys _ _ x h'
        · exact hv
      have := num_inj hbs (low_bys (fsum b) 4) (by rw [List.length_set]) (by rw [hn, ← h])
      have hv2 := set_getD (by rw [low_length]; omega) this
      apply hne
      rw [hv2, recB, bodyB, getD_left (by simp [hll, low_length]; omega), getD_left (by simp [hll, low_length]; omega), getD_right (by omega), hll]
    · -- a byte
      have e : (recB b).set t v ++ rest = (lenB b ++ low (fsum b) 4) ++ (b.set (t - 6) v ++ ([0] ++ rest)) := by
        have h6l : (lenB b ++ low (fsum b) 4).length = 6 := by simp [hll, low_length]
        rw [recB, bodyB, List.append_assoc, List.set_append_right _ _ (by omega), h6l, List.set_append_left _ _ (by omega)]
        simp
      have h6l : (lenB b ++ low (fsum b) 4).length = 6 := by simp [hll, low_length]
      have hd : ((recB b).set t v ++ rest).drop 6 = b.set (t - 6) v ++ ([0] ++ rest) := by rw [e, List.drop_left' h6l]
      have hm : (((recB b).set t v ++ rest).drop 2).take 4 = low (fsum b) 4 := by
        rw [e, List.append_assoc, List.drop_left' hll, List.take_left' (low_length _ _)]
      rw [hd, List.take_left' (by rw [List.length_set]), hm]
      have hr := fsum_range b
      rw [num_low, Int.emod_eq_of_lt hr.1 (by simpa using hr.2)]
      intro h
      unfold fsum at h
      have e2 : lenB (b.set (t - 6) v) ++ b.set (t - 6) v = (lenB b ++ b).set (t - 4) v := by
        rw [List.set_append_right _ _ (by omega), hll, show t - 4 - 2 = t - 6 from by omega]
        congr 1
        unfold lenB
        rw [List.length_set]
      rw [e2] at h
      have hv2 : v = (lenB b ++ b).getD (t - 4) 0 := (sumS_set (xs := lenB b ++ b) (t - 4) v (by rw [List.length_append, hll]; omega) ((low_bys _ _).app hb) hv).1 h
      apply hne
      have e3 : (recB b).getD t 0 = b.getD (t - 6) 0 := by
        rw [recB, bodyB, getD_left (by simp [hll, low_length]; omega), getD_right (by omega), h6l]
      rw [e3, hv2, getD_right (by omega), hll, show t - 4 - 2 = t - 6 from by omega]
  · -- the flag itself
    obtain rfl : t = b.length + 6 := by omega
    exfalso
    have e4 : ((recB b).set (b.length + 6) v).getD (b.length + 6) 0 = v := by simp [List.getD, hrl]
    rw [e4] at hf
    apply hne
    rw [hf, recB, getD_right (by omega), hbl, Nat.sub_self]
    rfl
end Go.Proofs.Ytgkgbbffgcmekaa

/-
  Plain laws for garretlaw07.FrameTorn: where records end; what is found of those that are cut, or spoilt.
-/
namespace Go.Proofs.Ytgkgbbffgcmekaa
open Go.RowKit
set_option linter.unusedVariables false
set_option linter.unusedSimpArgs false

/-- Where the first i records end. -/
def fE (B : List (List Int)) (i : Nat) : Nat := (recs (B.take i)).length
theorem fE_zero (B : List (List Int)) : fE B 0 = 0 := by simp [fE, recs]
theorem take_more7 {xs : List (List Int)} {k : Nat} (h : k < xs.length) : xs.take (k + 1) = xs.take k ++ [xs.getD k []] := by
  rw [List.take_succ_eq_append_getElem h]; simp [List.getD, List.getElem?_eq_getElem h]
theorem fE_succ {B : List (List Int)} {i : Nat} (h : i < B.length) : fE B (i + 1) = fE B i + ((B.getD i []).length + 7) := by
  unfold fE
  rw [take_more7 h, recs_snoc, List.length_append, recB_length]
theorem fE_all (B : List (List Int)) : fE B B.length = (recs B).length := by simp [fE]
theorem fE_le (B : List (List Int)) (i : Nat) : fE B i ≤ (recs B).length := by
  have : recs B = recs (B.take i) ++ recs (B.drop i) := by rw [← recs_app, List.take_append_drop]
  rw [this, List.length_append]
  exact Nat.le_add_right _ _
/-- The last one that ends by c. -/
def Last (B : List (List Int)) (k c W : Nat) : Prop := W ≤ k ∧ fE B W ≤ c ∧ ∀ i, W < i → i ≤ k → c < fE B i
theorem Last.zero (B : List (List Int)) (c : Nat) : Last B 0 c 0 := ⟨Nat.le_refl _, by rw [fE_zero]; exact Nat.zero_le _, fun i h1 h2 => by omega⟩
theorem Last.yes {B : List (List Int)} {k c W : Nat} (h : Last B k c W) (hc : fE B (k + 1) ≤ c) : Last B (k + 1) c (k + 1) := ⟨Nat.le_refl _, hc, fun i h1 h2 => by omega⟩
theorem Last.no {B : List (List Int)} {k c W : Nat} (h : Last B k c W) (hc : ¬ fE B (k + 1) ≤ c) : Last B (k + 1) c W :=
  ⟨Nat.le_succ_of_le h.1, h.2.1, fun i h1 h2 => by
    rcases Nat.lt_or_ge k i with h3 | h3
    · obtain rfl : i = k + 1 := by omega
      omega
    · exact h.2.2 i h1 h3⟩
theorem drop_more7 {B : List (List Int)} {k : Nat} (h : k < B.length) : B.drop k = B.getD k [] :: B.drop (k + 1) := by
  rw [List.drop_eq_getElem_cons h]; simp [List.getD, List.getElem?_eq_getElem h]
theorem getD_mem7 {B : List (List Int)} {k : Nat} (h : k < B.length) : B.getD k [] ∈ B := by
  have : B.getD k [] = B[k] := by simp [List.getD, List.getElem?_eq_getElem h]
  rw [this]
  exact List.getElem_mem h
theorem recs_split (B : List (List Int)) (W : Nat) : recs B = recs (B.take W) ++ recs (B.drop W) := by rw [← recs_app, List.take_append_drop]
theorem clean_rep (z : Nat) : clean (List.replicate z 255) = true := by
  unfold clean
  rw [List.all_eq_true]
  intro x hx
  rw [List.mem_replicate] at hx
  simp [hx.2]
/-- Of records whose end is torn those are found that are whole. -/
theorem found_torn {B : List (List Int)} (hl : ∀ b ∈ B, b.length ≤ 65000) {c W : Nat} (hc : c ≤ (recs B).length) (h : Last B B.length c W) (z : Nat) :
    Found ((recs B).take c ++ List.replicate z 255) (B.take W) (fE B W) ∧ (fE B W = c → clean (((recs B).take c ++ List.replicate z 255).drop (fE B W)) = true) := by
  obtain ⟨h1, h2, h3⟩ := h
  have hW : (recs (B.take W)).length = fE B W := rfl
  have e : (recs B).take c = recs (B.take W) ++ (recs (B.drop W)).take (c - fE B W) := by
    conv => lhs; rw [recs_split B W]
    rw [List.take_append, hW, List.take_of_length_le (by rw [hW]; exact h2)]
  have hn : firstS ((recs (B.drop W)).take (c - fE B W) ++ List.replicate z 255) = none := by
    rcases Nat.lt_or_ge W B.length with hw | hw
    · have h4 := h3 (W + 1) (by omega) (by omega)
      rw [fE_succ hw] at h4
      have hbl := hl _ (getD_mem7 hw)
      rw [drop_more7 hw, recs_cons, recB, List.append_assoc, List.take_append_of_le_length (by rw [bodyB_length]; omega)]
      exact firstS_torn _ hbl _ z (by omega)
    · rw [List.drop_of_length_le hw]
      have := firstS_torn [] (by simp) 0 z (by simp)
      simpa [recs] using this
  constructor
  · rw [e, List.append_assoc]
    have := found_recs (bs := B.take W) (fun b hb => hl b (List.mem_of_mem_take hb)) (Found.stop hn)
    simpa [hW] using this
  · intro hcw
    rw [e, List.append_assoc, List.drop_left' hW, hcw, Nat.sub_self, List.take_zero, List.nil_append]
    exact clean_rep z
/-- A byte that is another one takes its record away, and what is behind it. -/
theorem found_spoilt {B : List (List Int)} (hl : ∀ b ∈ B, b.length ≤ 65000) (hb : ∀ b ∈ B, Bys b) {a S : Nat} (ha : a < (recs B).length) (h : Last B B.length a S) (h2 : 2 ≤ a - fE B S) (v : Int) (hv : 0 ≤ v ∧ v < 256) (hne : v ≠ (recs B).getD a 0) :
    Found ((recs B).set a v) (B.take S) (fE B S) := by
  obtain ⟨h1, hle, h3⟩ := h
  have hS : (recs (B.take S)).length = fE B S := rfl
  have hw : S < B.length := by
    rcases Nat.lt_or_ge S B.length with hw | hw
    · exact hw
    · have : S = B.length := by omega
      rw [this, fE_all] at hle
      omega
  have h4 := h3 (S + 1) (by omega) (by omega)
  rw [fE_succ hw] at h4
  have hbl := hl _ (getD_mem7 hw)
  have hbb := hb _ (getD_mem7 hw)
  have e0 : recs B = recs (B.take S) ++ (recB (B.getD S []) ++ recs (B.drop (S + 1))) := by
    conv => lhs; rw [recs_split B S, drop_more7 hw, recs_cons]
  generalize B.getD S [] = b at *
  have hrl := recB_length b
  have hne' : v ≠ (recB b).getD (a - fE B S) 0 := by
    rw [e0, getD_right (by rw [hS]; exact hle), hS, getD_left (by omega)] at hne
    exact hne
  have e : (recs B).set a v = recs (B.take S) ++ ((recB b).set (a - fE B S) v ++ recs (B.drop (S + 1))) := by
    rw [e0, List.set_append_right _ _ (by rw [hS]; exact hle), hS, List.set_append_left _ _ (by omega)]
  rw [e]
  have := found_recs (bs := B.take S) (fun b hb => hl b (List.mem_of_mem_take hb)) (Found.stop (firstS_spoilt b (recs (B.drop (S + 1))) hbb hbl (a - fE B S) v h2 (by omega) hv hne'))
  simpa [hS] using this
/-- Rows of unlike elements lie apart. -/
theorem owns_besides {e e' : TypeId} (hne : e ≠ e') {base base' n n' : Nat} {w w' : World} {v v' : Value} {xs xs' : List Value} (h : w.ownsRow base e 1 v n xs) (ho : w.ownsRow base' e' 1 v' n' xs') (hg : w.grownBy w' v'.ownBlock) : w'.ownsRow base e 1 v n xs := by
  refine ⟨h.1, ?_⟩
  rcases h.2 with hn | ⟨g, cap, cur, hv, hbg, hh, r⟩
  · exact .inl hn
  · have hlt := (h.lt g (by rw [hv]; rfl)).2
    refine .inr ⟨g, cap, cur, hv, hbg, (hg.block g hlt ?_).trans hh, r⟩
    intro ee
    rcases ho.2 with ⟨hn, _⟩ | ⟨g', cap', cur', hv', _, hh', _⟩
    · rw [hn] at ee; cases ee
    · rw [hv'] at ee
      cases ee
      rw [hh] at hh'
      simp at hh'
      exact hne hh'.2
/-- 'int(uint(c) % uint(n))'. -/
theorem cut_big (c : Int) (n : Nat) (h : 0 < n) (hn : n ≤ 1000000) : ∃ k : Nat, k < n ∧ wrap64 ((IntKind.u64.wrap c).tmod (n : Int)) = (k : Int) := by
  have h0 : 0 ≤ c % 18446744073709551616 % (n : Int) := Int.emod_nonneg _ (by omega)
  have h1 : c % 18446744073709551616 % (n : Int) < n := Int.emod_lt_of_pos _ (by omega)
  refine ⟨((c % 18446744073709551616) % (n : Int)).toNat, by omega, ?_⟩
  rw [IntKind.wrap_u64, Int.tmod_eq_emod_of_nonneg (Int.emod_nonneg _ (by omega)), IntWalk.wrap64_in _ (by omega)]
  omega
end Go.Proofs.Ytgkgbbffgcmekaa

/-
  Plain matter of records in half a chip: what stands when a record is appended, and torn; what a wipe leaves.
-/
namespace Go.Proofs.Ytgkgbbffgcmekaa
open Go.RowKit
set_option linter.unusedVariables false

theorem over_app (bs : List Int) (p : Nat) (x y : List Int) : over bs p (x ++ y) = over (over bs p x) (p + x.length) y := by
  induction x generalizing bs p with
  | nil => simp [over]
  | cons a t ih =>
    simp only [List.cons_append, over, List.length_cons]
    rw [ih]
    congr 1
    omega
theorem over_right (x r y : List Int) : over (x ++ r) x.length y = x ++ over r 0 y := by
  have key : ∀ (y r : List Int) (q : Nat), over (x ++ r) (x.length + q) y = x ++ over r q y := by
    intro y
    induction y with
    | nil => intro r q; rfl
    | cons a t ih =>
      intro r q
      simp only [over]
      rw [List.set_append_right _ _ (by omega), Nat.add_sub_cancel_left, Nat.add_assoc, ih]
  simpa using key y r 0
theorem over_rep (n : Nat) (v : Int) (y : List Int) (h : y.length ≤ n) : over (List.replicate n v) 0 y = y ++ List.replicate (n - y.length) v := by
  have key : ∀ (y : List Int) (a : List Int) (n : Nat), y.length ≤ n → over (a ++ List.replicate n v) a.length y = a ++ (y ++ List.replicate (n - y.length) v) := by
    intro y
    induction y with
    | nil => intro a n _; simp [over]
    | cons x t ih =>
      intro a n hn
      obtain ⟨m, rfl⟩ : ∃ m, n = m + 1 := ⟨n - 1, by simp at hn; omega⟩
      simp only [over]
      rw [List.set_append_right _ _ (Nat.le_refl _), Nat.sub_self, List.replicate_succ, List.set_cons_zero]
      have := ih (a ++ [x]) m (by simpa using hn)
      simp only [List.append_assoc, List.cons_append, List.nil_append, List.length_append, List.length_cons, List.length_nil, Nat.zero_add] at this
      rw [this]
      simp
  simpa using key y [] n h
theorem set_rep (x : List Int) (n : Nat) (v y : Int) (h : 0 < n) : (x ++ List.replicate n v).set x.length y = x ++ (y :: List.replicate (n - 1) v) := by
  obtain ⟨m, rfl⟩ : ∃ m, n = m + 1 := ⟨n - 1, by omega⟩
  rw [List.set_append_right _ _ (Nat.le_refl _), Nat.sub_self, List.replicate_succ, List.set_cons_zero]
  simp
theorem and_255 {m : Int} (h : 0 ≤ m ∧ m < 256) : bits .and .u8 255 m = m := by
  obtain ⟨n, rfl⟩ := byte_nat h
  exact (by decide +kernel : ∀ n : Fin 256, bits .and .u8 255 (n.val : Int) = (n.val : Int)) n
theorem or_zero8 {m : Int} (h : 0 ≤ m ∧ m < 256) : bits .or .u8 0 m = m := by
  obtain ⟨n, rfl⟩ := byte_nat h
  exact (by decide +kernel : ∀ n : Fin 256, bits .or .u8 0 (n.val : Int) = (n.val : Int)) n

theorem progA_blank (S : PSt) (bs : List Int) (P : Nat) (b : List Int) (hl : P + b.length ≤ bs.length) (hb : ∀ j, j < b.length → bs.getD (P + j) 0 = 255) : progA S bs P b = progS S bs P b := by
  have h : hasS bs.length P b.length = true := by simp [hasS]; omega
  have h2 : sets bs P b = false := sets_false bs P b (fun j hj => by rw [hb j hj]; exact not_255 _)
  unfold progA
  rw [h, if_pos rfl, Int.toNat_natCast, h2]
  rfl
/-- Power that is on and tears nothing: the record, and its flag. -/
theorem progR_free (S : PSt) (bs : List Int) (P : Nat) (b : List Int) (h1 : S.off = false) (h2 : S.armed = false) (hl : P + b.length + 1 ≤ bs.length) (hb : ∀ j, j < b.length + 1 → bs.getD (P + j) 0 = 255) :
    progR S bs P b = (0, { S with steps := S.steps + (b.length + 1) }, over bs P (b ++ [0])) := by
  have e1 : progA S bs P b = (0, { S with steps := S.steps + b.length }, over bs P b) := by
    rw [progA_blank S bs P b (by omega) (fun j hj => hb j (by omega)), progS_free S bs P b h1 h2]
  have e2 := progA_blank { S with steps := S.steps + b.length } (over bs P b) (P + b.length) [0] (by rw [over_length]; simp; omega) (fun j hj => by
    simp at hj
    subst hj
    rw [Nat.add_zero, over_at _ _ _ _ (by omega), if_neg (by omega)]
    exact hb _ (by omega))
  rw [progS_free { S with steps := S.steps + b.length } _ _ _ h1 h2] at e2
  unfold progR
  rw [e1]
  simp only [if_true]
  rw [show (P : Int) + (b.length : Int) = ((P + b.length : Nat) : Int) by simp, e2, ← over_app]
  simp
  omega
/-- Power that will be torn. -/
theorem progR_torn (S : PSt) (bs : List Int) (P : Nat) (b : List Int) (c : Nat) (h1 : S.off = false) (h2 : S.armed = true) (h3 : S.left = c) (hm : 0 ≤ S.mask ∧ S.mask < 256) (hl : P + b.length + 1 ≤ bs.length) (hb : ∀ j, j < b.length + 1 → bs.getD (P + j) 0 = 255) :
    progR S bs P b = if b.length + 1 ≤ c then (0, { S with left := (c : Int) - (b.length + 1), steps := S.steps + (b.length + 1) }, over bs P (b ++ [0]))
      else (6, { S with off := true, left := 0, steps := S.steps + c }, (over bs P ((b ++ [0]).take c)).set (P + c) (bits .or .u8 ((b ++ [0]).getD c 0) S.mask)) := by
  have e1 := progA_blank S bs P b (by omega) (fun j hj => hb j (by omega))
  rw [progS_torn S bs P b c h1 h2 h3] at e1
  by_cases hc : b.length ≤ c
  · rw [if_pos hc] at e1
    have e2 := progA_blank { S with left := (c : Int) - b.length, steps := S.steps + b.length } (over bs P b) (P + b.length) [0] (by rw [over_length]; simp; omega) (fun j hj => by
      simp at hj
      subst hj
      rw [Nat.add_zero, over_at _ _ _ _ (by omega), if_neg (by omega)]
      exact hb _ (by omega))
    rw [progS_torn { S with left := (c : Int) - b.length, steps := S.steps + b.length } (over bs P b) (P + b.length) [0] (c - b.length) h1 h2 (by simp; omega)] at e2
    unfold progR
    rw [e1]
    simp only [if_true]
    rw [show (P : Int) + (b.length : Int) = ((P + b.length : Nat) : Int) by simp, e2]
    by_cases hc2 : b.length + 1 ≤ c
    · rw [if_pos (by simp; omega), if_pos hc2, ← over_app]
      simp
      omega
    · obtain rfl : c = b.length := by omega
      rw [if_neg (by simp), if_neg (by omega)]
      have e3 : (over bs P b).getD (P + b.length) 0 = 255 := by
        rw [over_at _ _ _ _ (by omega), if_neg (by omega)]
        exact hb _ (by omega)
      simp only [Nat.sub_self, List.take_zero, over, Nat.add_zero, List.take_left', e3, List.getD_cons_zero]
      rw [and_255 hm]
      simp [List.getD]
  · rw [if_neg hc] at e1
    unfold progR
    rw [e1]
    simp only [if_neg (show ¬ ((6 : Int) = 0) by decide)]
    rw [if_neg (by omega)]
    have e3 : (over bs P (b.take c)).getD (P + c) 0 = 255 := by
      have hlt : (b.take c).length = c := by simp; omega
      rw [over_at _ _ _ _ (by omega), if_neg (by omega)]
      exact hb _ (by omega)
    have e4 : (b ++ [(0 : Int)]).getD c 0 = b.getD c 0 := getD_left (by omega)
    have e5 : (b ++ [(0 : Int)]).take c = b.take c := List.take_append_of_le_length (by omega)
    rw [e3, and_255 hm, e4, e5]

theorem firstS_not {ys : List Int} {N : Nat} (hN : saidN ys = N) (h : 65000 < N ∨ ys.length < N + 7 ∨ ys.getD (N + 6) 0 ≠ 0) : firstS ys = none := by
  unfold firstS
  split
  · rfl
  · rw [hN, if_pos h]
/-- A record that is torn within its body, or in its flag, is none. -/
theorem firstS_ripped (b : List Int) (hl : b.length ≤ 65000) (c z : Nat) (hc : c < b.length + 7) (y : Int) (hy : 0 ≤ y ∧ y < 256) (h0 : c = b.length + 6 → y ≠ 0) : firstS ((recB b).take c ++ (y :: List.replicate z 255)) = none := by
  have hbl : (recB b).length = b.length + 7 := recB_length b
  have htl : ((recB b).take c).length = c := by simp [hbl]; omega
  have hlow : ∀ i, i < c → ((recB b).take c ++ (y :: List.replicate z 255)).getD i 0 = (recB b).getD i 0 := fun i hi => by
    rw [getD_left (by omega), getD_take7 hi]
  have hat : ((recB b).take c ++ (y :: List.replicate z 255)).getD c 0 = y := by
    rw [getD_right (by omega), htl, Nat.sub_self]; rfl
  have hhi : ∀ i, c < i → i < c + 1 + z → ((recB b).take c ++ (y :: List.replicate z 255)).getD i 0 = 255 := fun i h1 h2 => by
    rw [getD_right (by omega), htl, show i - c = (i - c - 1) + 1 by omega, List.getD_cons_succ, getD_rep7 (by omega)]
  have hlen : ((recB b).take c ++ (y :: List.replicate z 255)).length = c + 1 + z := by rw [List.length_append, htl]; simp; omega
  generalize hys : (recB b).take c ++ (y :: List.replicate z 255) = ys at *
  have hsix : c < saidN ys + 6 → firstS ys = none := fun h => by
    refine firstS_not rfl ?_
    by_cases hh : ys.length < saidN ys + 7
    · exact .inr (.inl hh)
    · exact .inr (.inr (by rw [hhi _ h (by omega)]; omega))
  by_cases h2 : 2 ≤ c
  · have hb2 := bodyB_two b hl
    have r0 : (recB b).getD 0 0 = (b.length : Int) % 256 := by rw [← hb2.1, recB, getD_left (by rw [bodyB_length]; omega)]
    have r1 : (recB b).getD 1 0 = (b.length : Int) / 256 := by rw [← hb2.2, recB, getD_left (by rw [bodyB_length]; omega)]
    have hs : saidN ys = b.length := by
      rw [saidN_two (hlow 0 (by omega)) (hlow 1 (by omega)), r0, r1]
      omega
    by_cases he : c = b.length + 6
    · refine firstS_not rfl (.inr (.inr ?_))
      rw [hs, ← he, hat]
      exact h0 he
    · exact hsix (by omega)
  · exact hsix (by omega)
end Go.Proofs.Ytgkgbbffgcmekaa

/-
  Plain matter of half a chip: the bytes of a half, behind what is appended.
-/
namespace Go.Proofs.Ytgkgbbffgcmekaa
open Go.RowKit
set_option linter.unusedVariables false

def part (bs : List Int) (H Z : Nat) : List Int := (bs.drop (H * Z)).take Z
section
variable {bs : List Int} {H Z : Nat}
theorem part_length (h : H * Z + Z ≤ bs.length) : (part bs H Z).length = Z := by simp [part]; omega
theorem part_at {i : Nat} (hi : i < Z) : (part bs H Z).getD i 0 = bs.getD (H * Z + i) 0 := by
  simp [part, List.getD, hi]
theorem part_bys (h : Bys bs) : Bys (part bs H Z) := (h.drop _).take _
theorem half_two {H : Nat} (h : H < 2) : H = 0 ∨ H = 1 := by omega
theorem part_over (x : List Int) (q : Nat) (hq : q + x.length ≤ Z) (hl : H * Z + Z ≤ bs.length) : part (over bs (H * Z + q) x) H Z = over (part bs H Z) q x := by
  refine list_ext ?_ (fun j hj => ?_)
  · rw [part_length (by rw [over_length]; exact hl), over_length, part_length hl]
  · rw [part_length (by rw [over_length]; exact hl)] at hj
    rw [part_at hj, over_at _ _ _ _ (by omega), over_at _ _ _ _ (by rw [part_length hl]; omega), part_at hj]
    by_cases h : q ≤ j ∧ j < q + x.length
    · rw [if_pos (by omega), if_pos h]
      congr 1
      omega
    · rw [if_neg (by omega), if_neg h]
theorem part_over_ne {H' : Nat} (x : List Int) (q : Nat) (hH : H < 2) (hH' : H' < 2) (hne : H ≠ H') (hq : q + x.length ≤ Z) (hl : 2 * Z ≤ bs.length) : part (over bs (H * Z + q) x) H' Z = part bs H' Z := by
  have hb : H * Z + Z ≤ bs.length ∧ H' * Z + Z ≤ bs.length := by rcases half_two hH with rfl | rfl <;> rcases half_two hH' with rfl | rfl <;> omega
  refine list_ext ?_ (fun j hj => ?_)
  · rw [part_length (by rw [over_length]; exact hb.2), part_length hb.2]
  · rw [part_length (by rw [over_length]; exact hb.2)] at hj
    rw [part_at hj, part_at hj, over_at _ _ _ _ (by omega), if_neg]
    rcases half_two hH with rfl | rfl <;> rcases half_two hH' with rfl | rfl <;> omega
theorem part_set (q : Nat) (y : Int) (hq : q < Z) (hl : H * Z + Z ≤ bs.length) : part (bs.set (H * Z + q) y) H Z = (part bs H Z).set q y := by
  refine list_ext ?_ (fun j hj => ?_)
  · rw [part_length (by rw [List.length_set]; exact hl), List.length_set, part_length hl]
  · rw [part_length (by rw [List.length_set]; exact hl)] at hj
    rw [part_at hj, getD_set, getD_set, part_at hj, part_length hl]
    by_cases h : q = j
    · rw [if_pos (by omega), if_pos (by omega)]
    · rw [if_neg (by omega), if_neg (by omega)]
theorem part_set_ne {H' : Nat} (q : Nat) (y : Int) (hH : H < 2) (hH' : H' < 2) (hne : H ≠ H') (hq : q < Z) (hl : 2 * Z ≤ bs.length) : part (bs.set (H * Z + q) y) H' Z = part bs H' Z := by
  have hb : H' * Z + Z ≤ bs.length := by rcases half_two hH' with rfl | rfl <;> omega
  refine list_ext ?_ (fun j hj => ?_)
  · rw [part_length (by rw [List.length_set]; exact hb), part_length hb]
  · rw [part_length (by rw [List.length_set]; exact hb)] at hj
    rw [part_at hj, part_at hj, getD_set, if_neg]
    rcases half_two hH with rfl | rfl <;> rcases half_two hH' with rfl | rfl <;> omega
theorem part_new (n : Nat) (hH : H < 2) (hl : 2 * Z ≤ n) : part (List.replicate n 255) H Z = List.replicate Z 255 := by
  have : H * Z + Z ≤ n := by rcases half_two hH with rfl | rfl <;> omega
  simp [part]
  omega
end
theorem isHalf_nat {H : Nat} (h : H < 2) : isHalf (H : Int) = true := by rcases half_two h with rfl | rfl <;> rfl
theorem part_fits {N : NSt} {n H : Nat} (ok : N.Ok n) (hH : H < 2) : H * halfZ N + halfZ N ≤ N.bs.length := by
  have := halfZ_big ok
  rw [ok.len]
  rcases half_two hH with rfl | rfl <;> omega
theorem readH_part {N : NSt} {n H : Nat} (ok : N.Ok n) (hH : H < 2) : readH N (H : Int) = (0, part N.bs H (halfZ N)) := by
  have h := part_fits ok hH
  unfold readH readS
  rw [isHalf_nat hH, show (H : Int) * (halfZ N : Int) = ((H * halfZ N : Nat) : Int) by simp]
  have h1 : hasS N.bs.length ((H * halfZ N : Nat) : Int) (halfZ N : Int) = true := by simp only [hasS, decide_eq_true_eq]; omega
  rw [h1, Int.toNat_natCast, Int.toNat_natCast]
  rfl
theorem readH_bytes {N : NSt} {n H : Nat} {bs : List Int} (ok : N.Ok n) (hl : bs.length = N.bs.length) (hb : Bys bs) (hH : H < 2) : readH { N with bs := bs } (H : Int) = (0, part bs H (halfZ N)) := readH_part (ok.bytes hl hb) hH
theorem bytes_same {N : NSt} (bs : List Int) : halfZ { N with bs := bs } = halfZ N := rfl

section
variable {S : PSt} {N : NSt} {H q n : Nat} {b : List Int}
theorem appH_in (hH : H < 2) (hb : b.length ≤ 65000) (hq : q + b.length + 7 ≤ halfZ N) : appH S N H q b = progR S N.bs ((H * halfZ N + q : Nat) : Int) (bodyB b) := by
  unfold appH
  rw [if_neg (by rw [isHalf_nat hH]; simp), if_neg (by omega), if_neg (by omega)]
  simp
/-- Power that is on, and tears nothing. -/
theorem app_free (ok : N.Ok n) (hH : H < 2) (hb : b.length ≤ 65000) (hq : q + b.length + 7 ≤ halfZ N) (h1 : S.off = false) (h2 : S.armed = false) (hbl : ∀ j, j < b.length + 7 → (part N.bs H (halfZ N)).getD (q + j) 0 = 255) :
    appH S N H q b = (0, { S with steps := S.steps + (b.length + 7) }, over N.bs (H * halfZ N + q) (recB b)) := by
  have hf := part_fits ok hH
  rw [appH_in hH hb hq, progR_free S N.bs (H * halfZ N + q) (bodyB b) h1 h2 (by rw [bodyB_length]; omega) (fun j hj => by
    rw [bodyB_length] at hj
    have := hbl j (by omega)
    rwa [part_at (by omega), ← Nat.add_assoc] at this), bodyB_length]
  simp [recB]
  omega
/-- Power that will be torn. -/
theorem app_torn (ok : N.Ok n) (hH : H < 2) (hb : b.length ≤ 65000) (hq : q + b.length + 7 ≤ halfZ N) {c : Nat} (h1 : S.off = false) (h2 : S.armed = true) (h3 : S.left = c) (hm : 0 ≤ S.mask ∧ S.mask < 256) (hbl : ∀ j, j < b.length + 7 → (part N.bs H (halfZ N)).getD (q + j) 0 = 255) :
    appH S N H q b = if b.length + 7 ≤ c then (0, { S with left := (c : Int) - (b.length + 7), steps := S.steps + (b.length + 7) }, over N.bs (H * halfZ N + q) (recB b))
      else (6, { S with off := true, left := 0, steps := S.steps + c }, (over N.bs (H * halfZ N + q) ((recB b).take c)).set (H * halfZ N + q + c) (bits .or .u8 ((recB b).getD c 0) S.mask)) := by
  have hf := part_fits ok hH
  rw [appH_in hH hb hq, progR_torn S N.bs (H * halfZ N + q) (bodyB b) c h1 h2 h3 hm (by rw [bodyB_length]; omega) (fun j hj => by
    rw [bodyB_length] at hj
    have := hbl j (by omega)
    rwa [part_at (by omega), ← Nat.add_assoc] at this), bodyB_length]
  by_cases hc : b.length + 7 ≤ c
  · rw [if_pos (by omega), if_pos hc]
    simp [recB]
    omega
  · rw [if_neg (by omega), if_neg hc]
    rfl
end
end Go.Proofs.Ytgkgbbffgcmekaa

/-
  The contracts of package half.
-/
namespace Go.Proofs.Ytgkgbbffgcmekaa
open Go.RowKit
set_option linter.unusedVariables false
set_option maxRecDepth 100000

theorem refusal_any (w : World) (po : Option Addr) (h : Int) : Calls Try.prog 36 #[.pointer po, .int .i64 h] w fun e w' => e = .returned (.int .i64 (if po = none then 2 else if isHalf h then 0 else 1)) ∧ w' = w := by
  cases po with
  | none =>
    go_enter Try.func36, Try.ntmps36
    go_wp2
    go_ret
    exact ⟨rfl, rfl⟩
  | some a =>
    by_cases h0 : h = 0
    · subst h0
      go_enter Try.func36, Try.ntmps36
      go_wp2
      go_ret
      exact ⟨rfl, rfl⟩
    · have h0' : (h != 0) = true := by simpa using h0
      by_cases h1 : h = 1
      · subst h1
        go_enter Try.func36, Try.ntmps36
        go_wp2
        go_ret
        exact ⟨rfl, rfl⟩
      · have h1' : (h != 1) = true := by simpa using h1
        have hh : isHalf h = false := by simp [isHalf, h0, h1]
        rw [hh]
        go_enter Try.func36, Try.ntmps36
        go_wp2
        go_ret
        exact ⟨rfl, rfl⟩

theorem sectors_any (w : World) (A : Nat) (b c d e : Int) (hA : A ≤ 16) :
    Calls Try.prog 37 #[.agg (gcells A b c d e)] w fun x w' => x = .returned (.int .i64 ((A / 2 : Nat) : Int)) ∧ Below w.heap.size w w' := by
  unfold gcells
  go_enter Try.func37, Try.ntmps37
  go_wp2
  go_ret
  refine ⟨ret_one (congrArg (Value.int .i64) ?_), (Below.refl _ _).alloc (Nat.le_refl _) _⟩
  omega

end Go.Proofs.Ytgkgbbffgcmekaa

/-
  What a region that draws keeps: cells, blocks, rows, 'nothing elder has turned', step by step.
-/
namespace Go.Proofs.Ytgkgbbffgcmekaa
open Go.RowKit
set_option linter.unusedVariables false

theorem kl_cell {w w' : World} {b o : Nat} {v : Value} (hb : Below w.heap.size w w') (h : w.cell? ⟨b, o, none⟩ = some v) : w'.cell? ⟨b, o, none⟩ = some v := (hb.cell (p := ⟨b, o, none⟩) (World.block_lt_of_cell? w _ h)).trans h
theorem kl_blk {w w' : World} {g : Array Value} {t : TypeId} {b : Nat} (hb : Below w.heap.size w w') (h : Blk w b g t) : Blk w' b g t := h.below hb h.lt
theorem kl_row {w w' : World} {v : Value} {xs : List Int} (hb : Below w.heap.size w w') (h : Row w v xs) : Row w' v xs := h.below hb
theorem kl_own {w w' : World} {v : Value} {xs : List Int} {base : Nat} (hb : Below w.heap.size w w') (h : Own base w v xs) : Own base w' v xs := h.kept hb
theorem kl_step {w0 w w' : World} (hb : Below w.heap.size w w') (h : Below w0.heap.size w0 w) : Below w0.heap.size w0 w' := h.trans (hb.mono h.size)
theorem kl_drew (w : World) : Below w.heap.size w w.drew := (Below.refl _ _).drew
theorem kl_alloc (w : World) (o : Obj) : Below w.heap.size w (w.alloc o) := (Below.refl _ _).alloc (Nat.le_refl _) o
end Go.Proofs.Ytgkgbbffgcmekaa

/-
  The contracts of package half: Size, Read, program.
-/
namespace Go.Proofs.Ytgkgbbffgcmekaa
open Go.RowKit
set_option linter.unusedVariables false
set_option maxRecDepth 100000

/-- What is held of a geometry's block: its cells. -/
def HoldZ (w0 : World) (s : Nat) (a b c d e : Int) (w' : World) : Prop :=
  (w'.cell? ⟨s, 0, none⟩ = some (.int .i64 a) ∧ w'.cell? ⟨s, 1, none⟩ = some (.int .i64 b) ∧ w'.cell? ⟨s, 2, none⟩ = some (.int .i64 c) ∧ w'.cell? ⟨s, 3, none⟩ = some (.int .i64 d) ∧ w'.cell? ⟨s, 4, none⟩ = some (.int .i64 e)) ∧ Below w0.heap.size w0 w'
theorem holdZ_of {w0 : World} {s : Nat} {a b c d e : Int} {w : World} (h : Blk w s (gcells a b c d e) 23) (hb : Below w0.heap.size w0 w) : HoldZ w0 s a b c d e w := by
  have h0 := h.cell 0
  have h1 := h.cell 1
  have h2 := h.cell 2
  have h3 := h.cell 3
  have h4 := h.cell 4
  simp [gcells] at h0 h1 h2 h3 h4
  exact ⟨⟨h0, h1, h2, h3, h4⟩, hb⟩
theorem holdZ_step {w0 : World} {s : Nat} {a b c d e : Int} {w w' : World} (hb : Below w.heap.size w w') (h : HoldZ w0 s a b c d e w) : HoldZ w0 s a b c d e w' := ⟨⟨kl_cell hb h.1.1, kl_cell hb h.1.2.1, kl_cell hb h.1.2.2.1, kl_cell hb h.1.2.2.2.1, kl_cell hb h.1.2.2.2.2⟩, kl_step hb h.2⟩

set_option maxHeartbeats 1000000 in
theorem HSize_any (w : World) (A B : Nat) (c d e : Int) (hr : rightS A B c d e = true) :
    Calls Try.prog 28 #[.agg (gcells A B c d e)] w fun x w' => x = .returned (.int .i64 ((A / 2 * B : Nat) : Int)) ∧ Below w.heap.size w w' := by
  have hu := rightS_of hr
  have hA0 : 2 ≤ A ∧ A ≤ 16 := by omega
  have hB0 : 256 ≤ B ∧ B ≤ 4096 := by omega
  have hri := fun w => Right_any w A B c d e (wf_i64 (by omega) (by omega))
  rw [hr] at hri
  have hAB : A / 2 * B ≤ 8 * 4096 := Nat.mul_le_mul (by omega) hB0.2
  have hm : (((A / 2 : Nat) : Int) * (B : Int)) = ((A / 2 * B : Nat) : Int) := by simp
  obtain ⟨H, hH⟩ : ∃ H, A / 2 = H := ⟨_, rfl⟩
  have hse := fun w => sectors_any w A B c d e (by omega)
  rw [hH] at hAB hm ⊢
  simp only [hH] at hse
  have hmw : IntKind.i64.wrap ((H : Int) * (B : Int)) = ((H * B : Nat) : Int) := by rw [hm]; exact i64_in _ (by omega)
  generalize H * B = Z at *
  have HA := hide hA0
  clear hu hr hA0 hH
  unfold gcells at *
  go_enter Try.func28, Try.ntmps28
  go_wp2_with fail
  refine (hri _).mono ?_
  rintro x w1 ⟨rfl, rfl⟩
  have hb := Blk.new w #[.int .i64 A, .int .i64 B, .int .i64 c, .int .i64 d, .int .i64 e] 23
  have hB1 : Below w.heap.size w ((w.alloc (.cells #[.int .i64 A, .int .i64 B, .int .i64 c, .int .i64 d, .int .i64 e] 23)).alloc (.cells #[.int .i64 A, .int .i64 B, .int .i64 c, .int .i64 d, .int .i64 e] 23)) := ((Below.refl _ _).alloc (Nat.le_refl _) _).alloc (by simp) _
  have hb1 := hb.kept (World.grownBy_alloc _ (.cells #[.int .i64 A, .int .i64 B, .int .i64 c, .int .i64 d, .int .i64 e] 23) none) (by simp)
  generalize (w.alloc (.cells #[.int .i64 A, .int .i64 B, .int .i64 c, .int .i64 d, .int .i64 e] 23)).alloc (.cells #[.int .i64 A, .int .i64 B, .int .i64 c, .int .i64 d, .int .i64 e] 23) = W at *
  have hS0 := hide (holdZ_of hb1 hB1)
  clear hb hri
  go_wp2_with fail
  go_region_held3 (fun w' => (w'.cell? ⟨w.heap.size, 0, none⟩ = some (.int .i64 A) ∧ w'.cell? ⟨w.heap.size, 1, none⟩ = some (.int .i64 B) ∧ w'.cell? ⟨w.heap.size, 2, none⟩ = some (.int .i64 c) ∧ w'.cell? ⟨w.heap.size, 3, none⟩ = some (.int .i64 d) ∧ w'.cell? ⟨w.heap.size, 4, none⟩ = some (.int .i64 e)) ∧ Below w.heap.size w w')
    (first
      | assumption
      | exact holdZ_step (kl_drew _) hS0.out
      | exact holdZ_step hb9 (by assumption)
      | fail)
    (first
      | (go_at_call 37; refine (hse _).mono ?_; rintro x w9 ⟨rfl, hb9⟩)
      | fail)
  go_wp2
  go_ret
  exact ⟨ret_one (congrArg (Value.int .i64) (i64_in _ (by omega))), kl_step hb9 (kl_step (kl_drew _) hB1)⟩

/-- The chip's own geometry may be. -/
def RightG (N : NSt) : Prop := rightS N.A N.B N.c N.d N.e = true
theorem SameG.right {N M : NSt} (h : SameG N M) (hr : RightG N) : RightG M := by
  obtain ⟨h1, h2, h3, h4, h5⟩ := h
  unfold RightG at *
  rw [h1, h2, h3, h4, h5]; exact hr
theorem isHalf_of {h : Int} (hh : isHalf h = true) : h = 0 ∨ h = 1 := by simpa [isHalf] using hh

set_option maxHeartbeats 1000000 in
theorem HRead_any (base : Nat) (w : World) (L : Lay) (N : NSt) (n : Nat) (h : Chip 70 base w L N) (ok : N.Ok n) (hr : RightG N) (hf : Int) :
    Calls Try.prog 23 #[.pointer (some ⟨L.c, 0, none⟩), .int .i64 hf] w fun e w' =>
      ∃ v, e = .returned (.tuple #[v, .int .i64 (readH N hf).1]) ∧ Own w.heap.size w' v (readH N hf).2 ∧ Below w.heap.size w w' := by
  have hre := refusal_any w (some ⟨L.c, 0, none⟩) hf
  by_cases hh : isHalf hf = true
  · have e1 : readH N hf = readS N.bs (hf * (halfZ N : Int)) (halfZ N) := by unfold readH; rw [hh]; rfl
    rw [e1]
    rw [hh] at hre
    have hb := halfZ_big ok
    have hge := Geometry_any base w L N h
    have hsz := fun w => HSize_any w N.A N.B N.c N.d N.e hr
    rw [show N.A / 2 * N.B = halfZ N from rfl] at hsz
    generalize hZ : halfZ N = Z at *
    obtain ⟨P, hP, hPb⟩ : ∃ P : Nat, hf * (Z : Int) = (P : Int) ∧ P ≤ Z := by
      rcases isHalf_of hh with rfl | rfl
      · exact ⟨0, by simp, by omega⟩
      · exact ⟨Z, by simp, by omega⟩
    have hrd := fun w' (hc : Chip 70 base w' L N) => Read_any base w' L N n hc ok (P : Int) Z (wf_i64 (by omega) (by omega)) (wf_i64 (by omega) (by omega))
    have hmw : IntKind.i64.wrap (hf * (Z : Int)) = (P : Int) := by rw [hP]; exact i64_in _ (by omega)
    rw [hP]
    have hfr : 0 ≤ hf ∧ hf ≤ 1 := by rcases isHalf_of hh with rfl | rfl <;> omega
    have HCH := hide h
    clear h hr hh e1
    unfold gcells at hge hsz
    go_enter Try.func23, Try.ntmps23
    go_wp2_with fail
    refine hre.mono ?_
    rintro e w1 ⟨rfl, rfl⟩
    simp only [if_true, if_false, reduceCtorEq]
    go_wp2_with fail
    refine hge.mono ?_
    rintro e w2 ⟨rfl, hb2⟩
    go_wp2_with fail
    refine (hsz _).mono ?_
    rintro e w3 ⟨rfl, hb3⟩
    have hb13 := kl_step hb3 hb2
    have hC3 := HCH.out.only (l := []) (only_below hb13) (by simp) (by simp) (by simp)
    have hrd3 := hrd w3 hC3
    clear hre hge hsz hb2 hb3 hrd
    go_wp2_with fail
    refine hrd3.mono ?_
    rintro e w4 ⟨v, rfl, hown, hb4⟩
    go_wp2
    go_ret2
    exact ⟨_, rfl, hown.mono hb13.size, kl_step hb4 hb13⟩
  · have hh' : isHalf hf = false := by simpa using hh
    have e1 : readH N hf = (1, []) := by unfold readH; rw [hh']; rfl
    rw [e1]
    rw [hh'] at hre
    clear h hr hh hh' e1
    go_enter Try.func23, Try.ntmps23
    go_wp2_with fail
    refine hre.mono ?_
    rintro e w1 ⟨rfl, rfl⟩
    simp only [if_false, reduceCtorEq, Bool.false_eq_true]
    go_wp2
    go_ret2
    exact ⟨_, rfl, Own.nil _ _, Below.refl _ _⟩

theorem HReadNil_any (w : World) (hf : Int) : Calls Try.prog 23 #[.pointer none, .int .i64 hf] w fun e w' => e = .returned (.tuple #[.slice none 0 0, .int .i64 2]) ∧ w' = w := by
  have hre := refusal_any w none hf
  go_enter Try.func23, Try.ntmps23
  go_wp2_with fail
  refine hre.mono ?_
  rintro e w1 ⟨rfl, rfl⟩
  simp only [if_true]
  go_wp2
  go_ret2
  exact ⟨rfl, rfl⟩
end Go.Proofs.Ytgkgbbffgcmekaa

/-
  The contracts of package half: program.
-/
namespace Go.Proofs.Ytgkgbbffgcmekaa
open Go.RowKit
set_option linter.unusedVariables false
set_option maxRecDepth 100000

set_option maxHeartbeats 400000 in
theorem hprogram_any (base : Nat) (w : World) (L : Lay) (S : PSt) (N : NSt) (n : Nat) (h : Dev base w L S N) (okS : S.Ok n) (ok : N.Ok n) (hn : n < 700000) (hsz : base ≤ w.heap.size) (p : Nat) (hp : p ≤ 70000)
    (v : Value) (b : List Int) (hv : Row w v b) (hb : b.length ≤ 65536) (hsep : 0 < b.length → ∀ vb off n cap, v = .slice (some ⟨vb, off, none⟩) n cap → vb ∉ [L.pb, L.bb]) :
    Calls Try.prog 46 #[.pointer (some ⟨L.c, 0, none⟩), .int .i64 p, v] w fun e w' =>
      e = .returned (.int .i64 (progR S N.bs p b).1) ∧ Dev base w' L (progR S N.bs p b).2.1 { N with bs := (progR S N.bs p b).2.2 } ∧ Only [L.pb, L.bb] w w' := by
  have hlenr := hv.lenRun
  have hpg := Program_any base w L S N n h okS ok (by omega) p (wf_i64 (by omega) (by omega)) v b hv hb hsep
  have hok1 := progA_ok (p := (p : Int)) okS ok.bys hv.bys
  have hcode := progA_code S N.bs p b
  unfold progR
  obtain ⟨⟨x1, S1, bs1⟩, hq⟩ : ∃ r, progA S N.bs p b = r := ⟨_, rfl⟩
  rw [hq] at hpg hok1 hcode ⊢
  simp only at hpg hok1 hcode ⊢
  have ok1 : NSt.Ok { N with bs := bs1 } (n + b.length) := (ok.more (by omega)).bytes hok1.2.1 hok1.2.2
  have okS1 := hok1.1
  by_cases hx : x1 = 0
  · subst hx
    rw [if_pos rfl]
    obtain ⟨q, hqq⟩ : ∃ q : Nat, p + b.length = q := ⟨_, rfl⟩
    have hw1 : IntKind.i64.wrap ((p : Int) + (b.length : Int)) = (q : Int) := by rw [i64_in _ (by omega)]; omega
    rw [show (p : Int) + (b.length : Int) = (q : Int) by omega]
    have hlt := h.2.lt
    have HN := hide hn
    have HQ : Hid (q ≤ 200000) := hide (by omega)
    have HBL := hide hb
    have hpL := hlt.2.1
    have hbL := hlt.2.2.1
    have HV := hide hv
    clear h hsep hq hok1 hcode hv ok okS hqq hb
    obtain ⟨len, hlen⟩ : ∃ z, b.length = z := ⟨_, rfl⟩
    rw [hlen] at hw1 hlenr ok1 okS1 HBL
    clear hlen hlt
    go_enter Try.func46, Try.ntmps46
    go_wp2_with fail
    refine hpg.mono ?_
    rintro e w1 ⟨rfl, hD1, hO1⟩
    have hsz1 : base ≤ w1.heap.size := Nat.le_trans hsz hO1.size
    have hrow : Row (w1.alloc (.cells #[.int .u8 0] 5)) (.slice (some ⟨w1.heap.size, 0, none⟩) 1 1) [0] := row_new1 w1 0 (by omega)
    have hD2 := hD1.still (only_grown (World.grownBy_alloc w1 (.cells #[.int .u8 0] 5) none) (by simp))
    have hO2 : Only [L.pb, L.bb] w (w1.alloc (.cells #[.int .u8 0] 5)) := hO1.trans (only_grown (World.grownBy_alloc w1 (.cells #[.int .u8 0] 5) none) (by simp))
    have hpg2 := Program_any base _ L S1 { N with bs := bs1 } (n + len) hD2 okS1 ok1 (by have := HN.out; have := HBL.out; omega) q (wf_i64 (by omega) (by have := HQ.out; omega)) _ [0] hrow (by simp) (by intro _ vb off n cap e; simp at e ⊢; omega)
    simp only at hpg2
    clear hpg hD1 hO1 hrow hD2
    go_wp2_with fail
    refine hpg2.mono ?_
    rintro e w3 ⟨rfl, hD3, hO3⟩
    go_wp2
    go_ret
    exact ⟨rfl, hD3, hO2.trans hO3⟩
  · rw [if_neg hx]
    have hx' : (x1 != 0) = true := by simpa using hx
    clear h hsep hq hok1 hcode hv ok okS ok1 okS1 hb hx
    go_enter Try.func46, Try.ntmps46
    go_wp2_with fail
    refine hpg.mono ?_
    rintro e w1 ⟨rfl, hD1, hO1⟩
    go_wp2
    go_ret
    exact ⟨rfl, hD1, hO1⟩

end Go.Proofs.Ytgkgbbffgcmekaa

/-
  The contracts of package half: Append.
-/
namespace Go.Proofs.Ytgkgbbffgcmekaa
open Go.RowKit
set_option linter.unusedVariables false
set_option maxRecDepth 100000

theorem HAppendNil_any (w : World) (hf q : Int) (v : Value) : Calls Try.prog 21 #[.pointer none, .int .i64 hf, .int .i64 q, v] w fun e w' => e = .returned (.int .i64 2) ∧ w' = w := by
  have hre := refusal_any w none hf
  go_enter Try.func21, Try.ntmps21
  go_wp2_with fail
  refine hre.mono ?_
  rintro e w1 ⟨rfl, rfl⟩
  simp only [if_true]
  go_wp2
  go_ret
  exact ⟨rfl, rfl⟩

set_option maxHeartbeats 600000 in
theorem HAppend_any (base : Nat) (w : World) (L : Lay) (S : PSt) (N : NSt) (n : Nat) (h : Dev base w L S N) (okS : S.Ok n) (ok : N.Ok n) (hr : RightG N) (hn : n < 700000) (hsz : base ≤ w.heap.size) (hf q : Int) (hq : (Lit.int .i64 q).wf = true)
    (v : Value) (b : List Int) (hv : Row w v b) :
    Calls Try.prog 21 #[.pointer (some ⟨L.c, 0, none⟩), .int .i64 hf, .int .i64 q, v] w fun e w' =>
      e = .returned (.int .i64 (appH S N hf q b).1) ∧ Dev base w' L (appH S N hf q b).2.1 { N with bs := (appH S N hf q b).2.2 } ∧ Only [L.pb, L.bb] w w' := by
  have hre := refusal_any w (some ⟨L.c, 0, none⟩) hf
  by_cases hh : isHalf hf = true
  · rw [hh] at hre
    have hfr : 0 ≤ hf ∧ hf ≤ 1 := by rcases isHalf_of hh with rfl | rfl <;> omega
    by_cases hq0 : q < 0
    · have e1 : appH S N hf q b = (1, S, N.bs) := by unfold appH; rw [if_pos (.inr hq0)]
      rw [e1]
      clear e1 okS ok hr hv hq
      go_enter Try.func21, Try.ntmps21
      go_wp2_with fail
      refine hre.mono ?_
      rintro e w1 ⟨rfl, rfl⟩
      simp only [if_true, if_false, reduceCtorEq]
      go_wp2
      go_ret
      exact ⟨rfl, h, Only.refl _ _⟩
    · have hbo := Body_any w v b hv
      have hq' := of_wf_i64 hq
      by_cases hbig : 65000 < b.length
      · have e1 : appH S N hf q b = (21, S, N.bs) := by unfold appH; rw [if_neg (by rw [hh]; simp; omega), if_pos hbig]
        have e2 : bodyS b = ([], 21) := by unfold bodyS; rw [if_pos hbig]
        rw [e1]
        rw [e2] at hbo
        have HD := hide h
        clear e1 e2 okS ok hr hv hq h hbig
        go_enter Try.func21, Try.ntmps21
        go_wp2_with fail
        refine hre.mono ?_
        rintro e w1 ⟨rfl, rfl⟩
        simp only [if_true, if_false, reduceCtorEq]
        go_wp2_with fail
        refine hbo.mono ?_
        rintro e w2 ⟨u, rfl, hu, hb2⟩
        go_wp2
        go_ret
        exact ⟨rfl, HD.out.still (only_below hb2), only_below hb2⟩
      · have e2 : bodyS b = (bodyB b, 0) := by unfold bodyS; rw [if_neg hbig]
        rw [e2] at hbo
        have hlenr := hv.lenRun
        have hge := fun w' (hc : Chip 70 base w' L N) => Geometry_any base w' L N hc
        have hss := fun w => HSize_any w N.A N.B N.c N.d N.e hr
        rw [show N.A / 2 * N.B = halfZ N from rfl] at hss
        have hbz := halfZ_big ok
        have hal : appH S N hf q b = if (halfZ N : Int) - q < (b.length : Int) + 7 then (10, S, N.bs) else progR S N.bs (hf * (halfZ N : Int) + q) (bodyB b) := by
          unfold appH; rw [if_neg (by rw [hh]; simp; omega), if_neg hbig]
        rw [hal]
        have hbl : b.length ≤ 65000 := by omega
        have HD := hide h
        have HBL := hide hbl
        have hpr := fun w' (hd : Dev base w' L S N) (hs : base ≤ w'.heap.size) (P : Nat) (hP : P ≤ 70000) (u : Value) (hu : Row w' u (bodyB b)) hsep => hprogram_any base w' L S N n hd okS ok hn hs P hP u (bodyB b) hu (by rw [bodyB_length]; omega) hsep
        have hlt := h.2.lt
        have hpL := hlt.2.1
        have hbL := hlt.2.2.1
        obtain ⟨P, hP, hP1, hP2⟩ : ∃ P : Nat, hf * (halfZ N : Int) = (P : Int) ∧ P ≤ 32768 ∧ True := by
          rcases isHalf_of hh with rfl | rfl
          · exact ⟨0, by simp, by omega, trivial⟩
          · exact ⟨halfZ N, by simp, by omega, trivial⟩
        rw [hP]
        have hmw : IntKind.i64.wrap (hf * (halfZ N : Int)) = (P : Int) := by rw [hP]; exact i64_in _ (by omega)
        have HSZ := hide hsz
        have HN := hide hn
        generalize hZ : halfZ N = Z at *
        obtain ⟨len, hlen⟩ : ∃ z, b.length = z := ⟨_, rfl⟩
        rw [hlen] at hlenr ⊢
        rw [hlen] at HBL hbl
        clear e2 okS ok hr hv hq h hbig hal hh hlt hP2 hZ hlen hsz hn
        unfold gcells at hge hss
        by_cases hsp : (Z : Int) - q < (len : Int) + 7
        · rw [if_pos hsp]
          go_enter Try.func21, Try.ntmps21
          go_wp2_with fail
          refine hre.mono ?_
          rintro e w1 ⟨rfl, rfl⟩
          simp only [if_true, if_false, reduceCtorEq]
          go_wp2_with fail
          refine hbo.mono ?_
          rintro e w2 ⟨u, rfl, hu, hb2⟩
          have hD2 := HD.out.still (only_below hb2)
          have hg2 := hge w2 hD2.2
          clear hge hpr
          go_wp2_with fail
          refine hg2.mono ?_
          rintro e w3 ⟨rfl, hb3⟩
          go_wp2_with fail
          refine (hss _).mono ?_
          rintro e w4 ⟨rfl, hb4⟩
          have hb14 := kl_step hb4 (kl_step hb3 hb2)
          clear hg2 hss hb2 hb3 hb4 hD2
          go_wp2_with fail
          refine (Size_any w4 (len : Int) (by omega)).mono ?_
          rintro e w5 ⟨rfl, rfl⟩
          go_wp2
          go_ret
          exact ⟨rfl, HD.out.still (only_below hb14), only_below hb14⟩
        · rw [if_neg hsp]
          obtain ⟨Q, rfl⟩ := Int.eq_ofNat_of_zero_le (show 0 ≤ q by omega)
          have haw : IntKind.i64.wrap ((P : Int) + (Q : Int)) = ((P + Q : Nat) : Int) := by rw [i64_in _ (by omega)]; simp
          rw [show (P : Int) + (Q : Int) = ((P + Q : Nat) : Int) by simp]
          have hPQ : P + Q ≤ 70000 := by omega
          generalize P + Q = R at *
          go_enter Try.func21, Try.ntmps21
          go_wp2_with fail
          refine hre.mono ?_
          rintro e w1 ⟨rfl, rfl⟩
          simp only [if_true, if_false, reduceCtorEq]
          go_wp2_with fail
          refine hbo.mono ?_
          rintro e w2 ⟨u, rfl, hu, hb2⟩
          have hD2 := HD.out.still (only_below hb2)
          have hg2 := hge w2 hD2.2
          have hfrom := hu.from
          clear hge
          go_wp2_with fail
          refine hg2.mono ?_
          rintro e w3 ⟨rfl, hb3⟩
          go_wp2_with fail
          refine (hss _).mono ?_
          rintro e w4 ⟨rfl, hb4⟩
          have hb24 := kl_step hb4 hb3
          have hb14 := kl_step hb24 hb2
          have hu4 := hu.kept hb24
          clear hg2 hss hb2 hb3 hb4 hD2 hu hb24
          go_wp2_with fail
          refine (Size_any w4 (len : Int) (by omega)).mono ?_
          rintro e w5 ⟨rfl, rfl⟩
          have hsz4 := Nat.le_trans HSZ.out hb14.size
          have hp4 := hpr w5 (HD.out.still (only_below hb14)) hsz4 R hPQ u hu4.row (by
            intro _ vb off n cap e
            have := hfrom vb off n cap e
            have := HSZ.out
            simp
            omega)
          clear hpr hu4 hfrom
          go_wp2_with fail
          refine hp4.mono ?_
          rintro e w6 ⟨rfl, hD6, hO6⟩
          go_wp2
          go_ret
          exact ⟨rfl, hD6, (only_below hb14).trans hO6⟩
  · have hh' : isHalf hf = false := by simpa using hh
    have e1 : appH S N hf q b = (1, S, N.bs) := by unfold appH; rw [if_pos (.inl hh')]
    rw [e1]
    rw [hh'] at hre
    clear e1 okS ok hr hv hq hh hh'
    go_enter Try.func21, Try.ntmps21
    go_wp2_with fail
    refine hre.mono ?_
    rintro e w1 ⟨rfl, rfl⟩
    simp only [if_false, reduceCtorEq, Bool.false_eq_true]
    go_wp2
    go_ret
    exact ⟨rfl, h, Only.refl _ _⟩
end Go.Proofs.Ytgkgbbffgcmekaa

/-
  The contracts of package half: Wipe.
-/
namespace Go.Proofs.Ytgkgbbffgcmekaa
open Go.RowKit
set_option linter.unusedVariables false
set_option maxRecDepth 100000

theorem HWipeNil_any (w : World) (hf : Int) : Calls Try.prog 13 #[.pointer none, .int .i64 hf] w fun e w' => e = .returned (.int .i64 2) ∧ w' = w := by
  have hre := refusal_any w none hf
  go_enter Try.func13, Try.ntmps13
  go_wp2_with fail
  refine hre.mono ?_
  rintro e w1 ⟨rfl, rfl⟩
  simp only [if_true]
  go_wp2
  go_ret
  exact ⟨rfl, rfl⟩

set_option maxHeartbeats 600000 in
theorem HWipe_any (base : Nat) (w : World) (L : Lay) (S : PSt) (N : NSt) (n : Nat) (h : Dev base w L S N) (okS : S.Ok n) (ok : N.Ok n) (hn : n < 700000) (hf : Int) :
    Calls Try.prog 13 #[.pointer (some ⟨L.c, 0, none⟩), .int .i64 hf] w fun e w' =>
      e = .returned (.int .i64 (wipeH S N hf).1) ∧ Dev base w' L (wipeH S N hf).2.1 (wipeH S N hf).2.2 ∧ Only [L.pb, L.bb, L.eb] w w' := by
  have hre := refusal_any w (some ⟨L.c, 0, none⟩) hf
  by_cases hh : isHalf hf = true
  · rw [hh] at hre
    have e1 : wipeH S N hf = wipeF hf.toNat (halfN N) (halfN N) S N := by unfold wipeH; rw [hh]; rfl
    rw [e1]
    have hge := Geometry_any base w L N h.2
    have hA1 := ok.A1
    have hss := fun w => sectors_any w N.A N.B N.c N.d N.e hA1
    rw [show N.A / 2 = halfN N from rfl] at hss
    have hK : halfN N ≤ 8 := by unfold halfN; omega
    obtain ⟨F, rfl, hF⟩ : ∃ F : Nat, hf = (F : Int) ∧ F ≤ 1 := by
      rcases isHalf_of hh with rfl | rfl
      · exact ⟨0, rfl, by omega⟩
      · exact ⟨1, rfl, by omega⟩
    rw [Int.toNat_natCast]
    have HD := hide h
    generalize halfN N = K at *
    obtain ⟨M, hM, hM2⟩ : ∃ M : Nat, F * K = M ∧ M ≤ 8 := ⟨F * K, rfl, by have := Nat.mul_le_mul hF hK; omega⟩
    have hmw0 : (F : Int) * (K : Int) = (M : Int) := by rw [← hM]; simp
    have hmw : IntKind.i64.wrap ((F : Int) * (K : Int)) = (M : Int) := by rw [hmw0]; exact i64_in _ (by omega)
    clear hmw0
    have HOK := hide okS
    have HON := hide ok
    clear h hh e1 okS ok
    unfold gcells at hge hss
    go_enter Try.func13, Try.ntmps13
    go_wp2_with fail
    refine hre.mono ?_
    rintro e w1 ⟨rfl, rfl⟩
    simp only [if_true, if_false, reduceCtorEq]
    go_wp2_with fail
    refine hge.mono ?_
    rintro e w2 ⟨rfl, hb2⟩
    go_wp2_with fail
    refine (hss _).mono ?_
    rintro e w3 ⟨rfl, hb3⟩
    have hb13 := kl_step hb3 hb2
    have HD3 := hide (HD.out.still (only_below hb13))
    clear hre hge hss hb2 hb3 HD
    go_wp2_with fail
    go_loopw [7, 8] (fun i _ wr => ∃ (k : Nat) (S' : PSt) (N' : NSt), k ≤ K ∧ i = .int .i64 ((k : Int) - 1) ∧ Dev base wr L S' N' ∧ wipeF F K K S N = wipeF F K k S' N' ∧ S'.Ok (n + (K - k)) ∧ N'.Ok (n + (K - k)) ∧ Only [L.pb, L.bb, L.eb] w1 wr) (fun i _ _ => (intOf i + 1).toNat)
    case atStart => exact ⟨K, S, N, Nat.le_refl _, rfl, HD3.out, rfl, by simpa using HOK.out, by simpa using HON.out, only_below hb13⟩
    case round =>
      obtain ⟨k, S', N', hk, rfl, hD, hW, hS, hN, hO⟩ := hrel
      cases k with
      | zero =>
        have HW := hide hW
        clear hW
        go_wp2
        go_ret
        rw [HW.out]
        exact ⟨rfl, hD, hO⟩
      | succ k =>
        have haw : IntKind.i64.wrap ((M : Int) + (k : Int)) = ((M + k : Nat) : Int) := by rw [i64_in _ (by omega)]; simp
        have hk1 : ((k + 1 : Nat) : Int) - 1 = (k : Int) := by omega
        rw [hk1]
        have her := Erase_any base wr L S' N' (n + (K - (k + 1))) hD hS hN (by omega) ((M + k : Nat) : Int)
        have hok := eraseA_ok (s := ((M + k : Nat) : Int)) hS hN
        have hcode := eraseA_code S' N' ((M + k : Nat) : Int)
        rw [wipeF, hM] at hW
        obtain ⟨⟨x, S1, N1⟩, hq⟩ : ∃ r, eraseA S' N' ((M + k : Nat) : Int) = r := ⟨_, rfl⟩
        rw [hq] at her hok hcode hW
        simp only at her hok hcode hW
        have hS1 : S1.Ok (n + (K - k)) := hok.1.more (by omega)
        have hN1 : N1.Ok (n + (K - k)) := hok.2.more (by omega)
        have hkk : k < K := by omega
        generalize hR : M + k = R at *
        clear hq hok hD hS hN hk1 hR hk
        by_cases hx : x = 0
        · subst hx
          rw [if_pos rfl] at hW
          have HW := hide hW
          have HS1 := hide hS1
          have HN1 := hide hN1
          clear hW hcode hS1 hN1
          go_wp2_with fail
          refine her.mono ?_
          rintro e w5 ⟨rfl, hD5, hO5⟩
          go_wp2
          exact ⟨⟨k, S1, N1, by omega, by go_num, hD5, HW.out, HS1.out, HN1.out, hO.trans hO5⟩, by simp [intOf]⟩
        · rw [if_neg hx] at hW
          have hx' : (x != 0) = true := by simpa using hx
          have HW := hide hW
          clear hW hcode hS1 hN1 hx
          go_wp2_with fail
          refine her.mono ?_
          rintro e w5 ⟨rfl, hD5, hO5⟩
          go_wp2
          go_ret
          rw [HW.out]
          exact ⟨rfl, hD5, hO.trans hO5⟩
  · have hh' : isHalf hf = false := by simpa using hh
    have e1 : wipeH S N hf = (1, S, N) := by unfold wipeH; rw [hh']; rfl
    rw [e1]
    rw [hh'] at hre
    clear e1 okS ok hh hh'
    go_enter Try.func13, Try.ntmps13
    go_wp2_with fail
    refine hre.mono ?_
    rintro e w1 ⟨rfl, rfl⟩
    simp only [if_false, reduceCtorEq, Bool.false_eq_true]
    go_wp2
    go_ret
    exact ⟨rfl, h, Only.refl _ _⟩
end Go.Proofs.Ytgkgbbffgcmekaa

/-
  garretlaw08's awake.
-/
namespace Go.Proofs.Ytgkgbbffgcmekaa
open Go.RowKit
set_option linter.unusedVariables false
set_option maxRecDepth 100000

theorem RightG.new {A B : Nat} {c d e : Int} (hr : rightS A B c d e = true) : RightG (NSt.new A B c d e) := hr
theorem blank_found (Z : Nat) : Found (List.replicate Z 255) [] 0 := .stop (by have := firstS_torn [] (by simp) 0 Z (by simp); simpa using this)
theorem one_found (b : List Int) (hl : b.length ≤ 65000) (z : Nat) : Found (recB b ++ List.replicate z 255) [b] (b.length + 7) := by
  have := found_recs (bs := [b]) (rest := List.replicate z 255) (fun c hc => by simp at hc; subst hc; exact hl) (blank_found z)
  simpa [recs, recB_length] using this

set_option maxHeartbeats 1000000 in
theorem awake_any (w : World) : Calls Try.prog 12 #[] w fun e w' => e = .returned (.bool true) ∧ Below w.heap.size w w' := by
  have hp := fun w => play_full w 0 0 0 0 0
  unfold gcells at hp
  go_enter Try.func12, Try.ntmps12
  go_wp2_with fail
  refine (hp _).mono ?_
  rintro x w1 ⟨A, B, c, d, e, rfl, hr, hA, hB, hB1⟩
  obtain rfl := hA trivial
  obtain rfl := hB trivial
  go_wp2_with fail
  refine (New_any _).mono ?_
  rintro x w2 ⟨rfl, hw2⟩
  have HW2 := hide hw2
  clear hw2
  go_wp2_with fail
  refine (NewNor_right w2 2 256 c d e _ hr).mono ?_
  rintro x w3 ⟨k, bb, eb, rfl, hmade⟩
  have hK := hmade.kept hB1 HW2.out
  have ok := NSt.new_ok hr 0
  have hrg := RightG.new hr
  have hlt := hK.dev.2.lt
  have hsz := hK.size
  clear HW2 hmade hB1 hr
  generalize hL : (⟨k, w1.heap.size, bb, eb⟩ : Lay) = L at *
  obtain rfl : k = L.c := by rw [← hL]
  have HP1 : Hid (w1.heap.size = L.pb) := by unfold Hid; rw [← hL]
  clear hL
  generalize hbase : w3.heap.size = base at *
  have HZ : Hid (halfZ (NSt.new 2 256 c d e) = 256) := hide (by simp [halfZ, NSt.new])
  have HBS : Hid ((NSt.new 2 256 c d e).bs = List.replicate 512 255) := rfl
  generalize NSt.new 2 256 c d e = N at *
  have ha : appH PSt.zero N 1 0 [7] = (0, { PSt.zero with steps := 8 }, over N.bs (1 * halfZ N + 0) (recB [7])) := by
    have := app_free (S := PSt.zero) (N := N) (H := 1) (q := 0) (b := [7]) ok (by omega) (by simp) (by rw [HZ.out]; simp) rfl rfl (fun j hj => by
      rw [HBS.out, HZ.out, part_new _ (by omega) (by omega)]
      exact getD_rep7 (by simp at hj; omega))
    exact this
  have ok2 := ok.bytes (xs := over N.bs (1 * halfZ N + 0) (recB [7])) (over_length _ _ _) (over_bys ok.bys (recB_bys (by intro x hx; simp at hx; omega)) _)
  have hrd : readH { N with bs := over N.bs (1 * halfZ N + 0) (recB [7]) } 1 = (0, recB [7] ++ List.replicate 248 255) := by
    have h1 := readH_bytes (H := 1) ok (bs := over N.bs (1 * halfZ N + 0) (recB [7])) (over_length _ _ _) (over_bys ok.bys (recB_bys (by intro x hx; simp at hx; omega)) _) (by omega)
    have h2 : part (over N.bs (1 * halfZ N + 0) (recB [7])) 1 (halfZ N) = recB [7] ++ List.replicate 248 255 := by
      rw [part_over (bs := N.bs) (H := 1) (recB [7]) 0 (by rw [recB_length, HZ.out]; simp) (part_fits ok (by omega)), HZ.out, HBS.out, part_new _ (by omega) (by omega), over_rep _ _ _ (by rw [recB_length]; simp), recB_length]
      rfl
    rw [h2] at h1
    exact h1
  have HA := hide ha
  have HR := hide hrd
  clear ha hrd
  have happ := HAppend_any base _ L PSt.zero N 0 (hK.alloc (.cells #[.int .u8 7] 5)).dev (PSt.zero_ok 0) ok hrg (by omega) (hK.alloc (.cells #[.int .u8 7] 5)).size 1 0 (by decide) _ [7] (row_new1 w3 7 (by omega))
  rw [HA.out, hbase] at happ
  go_wp2_with fail
  refine happ.mono ?_
  rintro x w4 ⟨rfl, hD4, hO4⟩
  have hK4 := (hK.alloc (.cells #[.int .u8 7] 5)).turn hD4 (hO4.wide (by simp))
  clear happ hD4 hO4 hK
  have hrd4 := HRead_any base w4 L _ 0 hK4.dev.2 ok2 hrg 1
  rw [HR.out] at hrd4
  go_wp2_with fail
  refine hrd4.mono ?_
  rintro x w5 ⟨v, rfl, hown, hb5⟩
  have hK5 := hK4.below' hb5
  have hrow := hown.row
  have hlen : (recB [7] ++ List.replicate 248 255).length = 256 := by rw [List.length_append, recB_length]; simp
  have hsc := Scan_known hrow (by rw [hlen]; omega) (one_found [7] (by simp) 248)
  clear hrd4 hb5 hK4 hown hrow hlen
  go_wp2_with fail
  refine hsc.mono ?_
  rintro x w6 ⟨u, us, rfl, hv, ho, hb6⟩
  have hus : us.length = 1 := ho.1
  obtain ⟨ua, uc, rfl⟩ := hv.vals.of_len
  rw [hus]
  have hB6 := hK5.below' hb6
  have hsz6 := HSize_any
  clear hsc hv ho hb6 hK5
  go_wp2_with fail
  refine (hp _).mono ?_
  rintro x w7 ⟨A, B, c', d', e', rfl, hr', hA', hB', hB7⟩
  obtain rfl := hA' trivial
  obtain rfl := hB' trivial
  have hs7 := HSize_any w7 2 256 c' d' e' hr'
  unfold gcells at hs7
  go_wp2_with fail
  refine hs7.mono ?_
  rintro x w8 ⟨rfl, hB8⟩
  have hF := (hB6.below' hB7).below' hB8
  go_wp2
  go_ret
  exact ⟨rfl, hF.below⟩
end Go.Proofs.Ytgkgbbffgcmekaa

/-
  The document's own half: HalfSize, ReadHalf.
-/
namespace Go.Proofs.Ytgkgbbffgcmekaa
open Go.RowKit
set_option linter.unusedVariables false
set_option maxRecDepth 100000

set_option maxHeartbeats 400000 in
theorem RHalfSize_any (w : World) (A B : Nat) (c d e : Int) (hr : rightS A B c d e = true) :
    Calls Try.prog 29 #[.agg (gcells A B c d e)] w fun x w' => x = .returned (.int .i64 ((A / 2 * B : Nat) : Int)) ∧ Below w.heap.size w w' := by
  have hu := rightS_of hr
  have hA0 : 2 ≤ A ∧ A ≤ 16 := by omega
  have hB0 : 256 ≤ B ∧ B ≤ 4096 := by omega
  have hri := fun w => RRight_any w A B c d e (wf_i64 (by omega) (by omega))
  rw [hr] at hri
  have hAB : A / 2 * B ≤ 8 * 4096 := Nat.mul_le_mul (by omega) hB0.2
  have hm : (((A / 2 : Nat) : Int) * (B : Int)) = ((A / 2 * B : Nat) : Int) := by simp
  obtain ⟨H, hH⟩ : ∃ H, A / 2 = H := ⟨_, rfl⟩
  have hq : (A : Int) / 2 = (H : Int) := by omega
  have hq3 : IntKind.i64.wrap (H : Int) = (H : Int) := i64_in _ (by omega)
  rw [hH] at hAB hm ⊢
  generalize H * B = Z at *
  have HA := hide hA0
  clear hu hr hA0 hH
  unfold gcells at *
  go_enter Try.func29, Try.ntmps29
  go_wp2_with fail
  refine (hri _).mono ?_
  rintro x w1 ⟨rfl, rfl⟩
  have hb := Blk.new w #[.int .i64 A, .int .i64 B, .int .i64 c, .int .i64 d, .int .i64 e] 23
  have hB1 : Below w.heap.size w ((w.alloc (.cells #[.int .i64 A, .int .i64 B, .int .i64 c, .int .i64 d, .int .i64 e] 23)).alloc (.cells #[.int .i64 A, .int .i64 B, .int .i64 c, .int .i64 d, .int .i64 e] 23)) := ((Below.refl _ _).alloc (Nat.le_refl _) _).alloc (by simp) _
  have hb1 := hb.kept (World.grownBy_alloc _ (.cells #[.int .i64 A, .int .i64 B, .int .i64 c, .int .i64 d, .int .i64 e] 23) none) (by simp)
  generalize (w.alloc (.cells #[.int .i64 A, .int .i64 B, .int .i64 c, .int .i64 d, .int .i64 e] 23)).alloc (.cells #[.int .i64 A, .int .i64 B, .int .i64 c, .int .i64 d, .int .i64 e] 23) = W at *
  have c0 := hb1.cell 0
  have c1 := hb1.cell 1
  simp at c0 c1
  clear hb hri hb1
  go_wp2
  go_ret
  exact ⟨ret_one (congrArg (Value.int .i64) (by simp)), hB1⟩

set_option maxHeartbeats 1000000 in
theorem RReadHalf_any (base : Nat) (w : World) (L : Lay) (N : NSt) (n : Nat) (h : Chip 74 base w L N) (ok : N.Ok n) (hr : rightS N.A N.B N.c N.d N.e = true) (hf : Int) :
    Calls Try.prog 19 #[.pointer (some ⟨L.c, 0, none⟩), .int .i64 hf] w fun e w' =>
      ∃ v, e = .returned (.tuple #[v, .int .i64 (readH N hf).1]) ∧ Own w.heap.size w' v (readH N hf).2 ∧ Below w.heap.size w w' := by
  by_cases hh : isHalf hf = true
  · have e1 : readH N hf = readS N.bs (hf * (halfZ N : Int)) (halfZ N) := by unfold readH; rw [hh]; rfl
    rw [e1]
    have hb := halfZ_big ok
    have hsz := fun w => RHalfSize_any w N.A N.B N.c N.d N.e hr
    rw [show N.A / 2 * N.B = halfZ N from rfl] at hsz
    generalize hZ : halfZ N = Z at *
    obtain ⟨P, hP, hPb⟩ : ∃ P : Nat, hf * (Z : Int) = (P : Int) ∧ P ≤ Z := by
      have : hf = 0 ∨ hf = 1 := by simpa [isHalf] using hh
      rcases this with rfl | rfl
      · exact ⟨0, by simp, by omega⟩
      · exact ⟨Z, by simp, by omega⟩
    have hrd := fun w' (hc : Chip 74 base w' L N) => RRead_any base w' L N n hc ok (P : Int) Z (wf_i64 (by omega) (by omega)) (wf_i64 (by omega) (by omega))
    have hmw : IntKind.i64.wrap (hf * (Z : Int)) = (P : Int) := by rw [hP]; exact i64_in _ (by omega)
    have hP' := hP
    rw [hP']
    have c0 := h.blk.cell 0
    have c1 := h.blk.cell 1
    have c2 := h.blk.cell 2
    have c3 := h.blk.cell 3
    have c4 := h.blk.cell 4
    simp [ccells] at c0 c1 c2 c3 c4
    have hh3 : hf = 0 ∨ hf = 1 := by simpa [isHalf] using hh
    have HCH := hide h
    clear h hr hh e1
    unfold gcells at hsz
    have hcmp : ((hf != 0) = false) ∨ ((hf != 0) = true ∧ (hf != 1) = false) := by rcases hh3 with rfl | rfl <;> simp
    clear hh3
    rcases hcmp with hc0 | ⟨hc0, hc1⟩
    all_goals
      go_enter Try.func19, Try.ntmps19
      go_wp2_with fail
      refine (hsz _).mono ?_
      rintro e w3 ⟨rfl, hb3⟩
      have hC3 := HCH.out.only (l := []) (only_below hb3) (by simp) (by simp) (by simp)
      have hrd3 := hrd w3 hC3
      go_wp2_with fail
      refine hrd3.mono ?_
      rintro e w4 ⟨v, rfl, hown, hb4⟩
      go_wp2
      go_ret2
      exact ⟨_, rfl, hown.mono hb3.size, kl_step hb4 hb3⟩
  · have hh' : isHalf hf = false := by simpa using hh
    have e1 : readH N hf = (1, []) := by unfold readH; rw [hh']; rfl
    rw [e1]
    simp [isHalf] at hh'
    obtain ⟨h0, h1⟩ := hh'
    have h0' : (hf != 0) = true := by simpa using h0
    have h1' : (hf != 1) = true := by simpa using h1
    clear h hr hh e1 h0 h1
    go_enter Try.func19, Try.ntmps19
    go_wp2
    go_ret2
    exact ⟨_, rfl, Own.nil _ _, Below.refl _ _⟩
end Go.Proofs.Ytgkgbbffgcmekaa

/-
  Plain laws on getS and textS: what is put is got.
-/
namespace Go.Proofs.Ytgkgbbffgcmekaa
open Go.RowKit
set_option linter.unusedVariables false

theorem getS_in {pre mid post : List Int} {n : Int} (hn : n = mid.length) (h1 : 1 ≤ n) (h8 : n ≤ 8) : getS (pre ++ (mid ++ post)) pre.length n = (num mid, 0) := by
  unfold getS
  rw [if_neg (by omega), if_neg (by simp; omega)]
  have e : ((pre ++ (mid ++ post)).drop (Int.toNat (pre.length : Int))).take n.toNat = mid := by
    rw [Int.toNat_natCast, List.drop_left, hn, Int.toNat_natCast, List.take_left]
  rw [e]

/-- A text that was put is got. -/
theorem textS_put (pre s more : List Int) (hs : (s.length : Int) < 4294967296) : textS (pre ++ (low s.length 4 ++ (s ++ more))) pre.length = (s, (pre.length : Int) + 4 + s.length, 0) := by
  have hg : getS (pre ++ (low s.length 4 ++ (s ++ more))) pre.length 4 = ((s.length : Int), 0) := by
    rw [getS_in (by rw [low_length]; rfl) (by omega) (by omega), num_low]
    rw [Int.emod_eq_of_lt (by omega) (by show (s.length : Int) < 2 ^ 32; omega)]
  unfold textS
  rw [hg]
  rw [if_neg (by simp), if_neg (by simp [low_length]; omega)]
  have e : ((pre ++ (low s.length 4 ++ (s ++ more))).drop (Int.toNat (pre.length : Int) + 4)).take (Int.toNat (s.length : Int)) = s := by
    rw [Int.toNat_natCast, Int.toNat_natCast, ← List.drop_drop, List.drop_left]
    have hl := low_length (s.length : Int) 4
    generalize low (s.length : Int) 4 = l at *
    rw [← hl, List.drop_left, List.take_left]
  simp only [e]

/-- What is cut is too short. -/
theorem textS_cut (s : List Int) (k : Nat) (hk : k < 4 + s.length) (hs : (s.length : Int) < 4294967296) : textS ((low s.length 4 ++ s).take k) 0 = ([], 0, 3) := by
  by_cases h4 : k < 4
  · have hg : getS ((low s.length 4 ++ s).take k) 0 4 = (0, 3) := by
      unfold getS
      rw [if_neg (by omega), if_pos (by rw [List.length_take, List.length_append, low_length]; omega)]
    unfold textS
    rw [hg, if_pos (by simp)]
  · have e : (low s.length 4 ++ s).take k = [] ++ (low s.length 4 ++ s.take (k - 4)) := by
      rw [List.nil_append, List.take_append, low_length, List.take_of_length_le (by rw [low_length]; omega)]
    have hg : getS ((low s.length 4 ++ s).take k) 0 4 = ((s.length : Int), 0) := by
      rw [e]
      have := getS_in (pre := []) (mid := low s.length 4) (post := s.take (k - 4)) (n := 4) (by rw [low_length]; rfl) (by omega) (by omega)
      rw [List.length_nil] at this
      rw [show ((0 : Nat) : Int) = 0 from rfl] at this
      rw [this, num_low, Int.emod_eq_of_lt (by omega) (by show (s.length : Int) < 2 ^ 32; omega)]
    unfold textS
    rw [hg, if_neg (by simp), if_pos (by rw [List.length_take, List.length_append, low_length]; omega)]

/-- Behind the end there is none. -/
theorem textS_end (xs : List Int) : textS xs xs.length = ([], 0, 3) := by
  have hg : getS xs xs.length 4 = (0, 3) := by
    unfold getS
    rw [if_neg (by omega), if_pos (by omega)]
  unfold textS
  rw [hg, if_pos (by simp)]

end Go.Proofs.Ytgkgbbffgcmekaa

/-
  The contracts of the document's own answers for codec: garretref01's Put, Get, PutText, GetText: the same plain functions as the program's.
-/
namespace Go.Proofs.Ytgkgbbffgcmekaa
open Go.RowKit
set_option linter.unusedVariables false

set_option maxHeartbeats 1000000 in
theorem refPut_any (w : World) (b : Value) (xs : List Int) (v n : Int) (h : Row w b xs) (hn : xs.length ≤ 140737488355000) (hv : 0 ≤ v) (hv2 : v < 18446744073709551616) :
    Calls Try.prog 59 #[b, .int .u64 v, .int .i64 n] w (MadeB w (xs ++ low v (held n))) := by
  obtain ⟨m, hm⟩ : ∃ m : Nat, m = held n := ⟨_, rfl⟩
  have hm8 : m ≤ 8 := hm ▸ held_le n
  have hmi : max 0 (min n 8) = (m : Int) := by rw [hm]; unfold held; omega
  rw [← hm]
  clear hm
  go_enter Try.func59, Try.ntmps59
  go_wp2_with (at_builtin; refine wpList_append_row rfl _ _ rfl w.heap.size _ _ [] xs rfl (Own.nil _ _) rfl h (by simp; omega) (Nat.le_refl _) ?_)
  intro v1 wb hob hgb
  have hbb : Below w.heap.size w wb := (Own.nil w.heap.size w).grown_below (Below.refl _ _) hgb (Nat.le_refl _) (Nat.le_refl _)
  go_wp2
  go_loopw [7, 8] (fun x i wr => ∃ k : Nat, k ≤ m ∧ i = .int .i64 k ∧ Own w.heap.size wr x (xs ++ low v k) ∧ Below w.heap.size w wr) (fun _ i _ => m - (intOf i).toNat)
  case atStart => exact ⟨0, Nat.zero_le _, rfl, by simpa [low] using hob, hbb⟩
  case round =>
    obtain ⟨k, hk, rfl, hok, hbk⟩ := hrel
    have hkl : (xs ++ low v k).length = xs.length + k := by rw [List.length_append, low_length]
    have HKL : Hid ((xs ++ low v k).length = xs.length + k) := hkl
    clear hkl
    by_cases hlt : k < m
    · have hlt' : (k : Int) < m := by omega
      go_wp2_with (at_builtin; refine wpList_append_row rfl _ _ rfl w.heap.size _ _ (xs ++ low v k) [v / 2 ^ (8 * k) % 256] rfl (hok.alloc _) rfl (row_new1 _ _ (byte_of v k)) (by rw [HKL.out]; simp; omega) (by have := hbk.size; simp; omega) ?_)
      intro v2 w2 ho2 hg2
      have hb1 : Below w.heap.size w (wr.alloc (.cells #[.int .u8 (v / 2 ^ (8 * k) % 256)] 5)) := hbk.alloc hbk.size _
      have R : Own w.heap.size w2 v2 (xs ++ low v (k + 1)) := by rw [low_succ, ← List.append_assoc]; simpa using ho2
      have G : Below w.heap.size w w2 := (hok.alloc _).grown_below hb1 hg2 (Nat.le_refl _) hb1.size
      clear ho2 hg2 hb1 hok
      go_wp2
      go_roundw
      case rel => exact ⟨k + 1, by omega, by go_num, R, G⟩
      case measure => simp [intOf]; omega
    · obtain rfl : k = m := by omega
      go_wp2
      go_ret
      exact ⟨_, rfl, hok, hbk⟩


/-- One byte more, from the top. -/
theorem get_down {xs : List Int} {p k m : Nat} (hk : k < m) (hm : m ≤ 8) (hpm : p + m ≤ xs.length) (hb : Bys xs) :
    bits .or .u64 (IntKind.u64.wrap (num (((xs.drop p).take m).drop (k + 1)) * 256)) (IntKind.u64.wrap (xs[p + k]?.getD 0)) = num (((xs.drop p).take m).drop k) := by
  have hx : 0 ≤ xs[p + k]?.getD 0 ∧ xs[p + k]?.getD 0 < 256 := hb.at (p + k)
  have hlen : ((xs.drop p).take m).length = m := by simp; omega
  have hd : ((xs.drop p).take m).drop k = xs[p + k]?.getD 0 :: ((xs.drop p).take m).drop (k + 1) := by
    rw [List.drop_eq_getElem_cons (by rw [hlen]; exact hk)]
    congr 1
    simp [List.getElem?_eq_getElem (show p + k < xs.length by omega)]
  have hnr := num_range ((((hb.drop p).take m).drop (k + 1)))
  have hl2 : (((xs.drop p).take m).drop (k + 1)).length = m - (k + 1) := by rw [List.length_drop, hlen]
  rw [hl2] at hnr
  have hle : (2 : Int) ^ (8 * (m - (k + 1))) ≤ 2 ^ 56 := pow_mono (by omega)
  have h56 : (2 : Int) ^ 56 = 72057594037927936 := by decide
  rw [hd, num]
  generalize xs[p + k]?.getD 0 = x at *
  generalize num (((xs.drop p).take m).drop (k + 1)) = v at *
  rw [IntKind.wrap_u64, IntKind.wrap_u64, Int.emod_eq_of_lt (a := x) hx.1 (by omega), Int.emod_eq_of_lt (a := v * 256) (by omega) (by omega), u64_or _ _ (by omega) (by omega) hx.1 (by omega)]
  obtain ⟨V, rfl⟩ := Int.eq_ofNat_of_zero_le hnr.1
  obtain ⟨X, rfl⟩ := Int.eq_ofNat_of_zero_le hx.1
  rw [Int.toNat_natCast, show ((V : Int) * 256).toNat = V * 256 from by omega, nat_join 8 _ _ (by omega) (by omega)]
  omega

set_option maxHeartbeats 1000000 in
theorem refGet_any (w : World) (b : Value) (xs : List Int) (pos n : Int) (h : Row w b xs) (hp : (Lit.int .i64 pos).wf = true) (hn : (Lit.int .i64 n).wf = true) :
    Calls Try.prog 42 #[b, .int .i64 pos, .int .i64 n] w fun e w' => e = .returned (.tuple #[.int .u64 (getS xs pos n).1, .int .i64 (getS xs pos n).2]) ∧ w' = w := by
  have hlm := h.len
  unfold maxLen at hlm
  by_cases ha : pos < 0 ∨ n < 1 ∨ 8 < n
  · have hs : getS xs pos n = (0, 1) := by unfold getS; rw [if_pos ha]
    rw [hs]
    obtain ⟨ao, cap, rfl⟩ := h.of_len
    clear h hp hn hs
    rcases (show pos < 0 ∨ (¬ pos < 0 ∧ n < 1) ∨ (¬ pos < 0 ∧ ¬ n < 1 ∧ 8 < n) from by omega) with h1 | ⟨h1, h2⟩ | ⟨h1, h2, h3⟩
    all_goals
      clear ha
      go_enter Try.func42, Try.ntmps42
      go_wp2
      go_ret2
      exact ⟨rfl, rfl⟩
  · have h1 : 0 ≤ pos := by omega
    have h2 : 1 ≤ n := by omega
    have h3 : n ≤ 8 := by omega
    have hpb := bounds_i64 hp
    by_cases hl : (xs.length : Int) < pos + n
    · have hs : getS xs pos n = (0, 3) := by unfold getS; rw [if_neg ha, if_pos hl]
      rw [hs]
      obtain ⟨ao, cap, rfl⟩ := h.of_len
      clear h hp hn hs ha
      by_cases hl2 : (xs.length : Int) < pos
      · clear hl
        go_enter Try.func42, Try.ntmps42
        go_wp2
        go_ret2
        exact ⟨rfl, rfl⟩
      · have hl3 : (xs.length : Int) - pos < n := by omega
        clear hl
        go_enter Try.func42, Try.ntmps42
        go_wp2
        go_ret2
        exact ⟨rfl, rfl⟩
    · obtain ⟨p, rfl⟩ := Int.eq_ofNat_of_zero_le h1
      obtain ⟨m, rfl⟩ := Int.eq_ofNat_of_zero_le (show 0 ≤ n by omega)
      have hs : getS xs p m = (num ((xs.drop p).take m), 0) := by unfold getS; rw [if_neg ha, if_neg hl]; simp
      rw [hs]
      obtain ⟨bl, off, cap, rfl, hlc, hbl, hc⟩ := h.at (by intro e; subst e; simp at hl; omega)
      have hby := h.bys
      have hpm : p + m ≤ xs.length := by omega
      have hml : ((xs.drop p).take m).length = m := by simp; omega
      have HML : Hid (((xs.drop p).take m).length = m) := hml
      generalize hL : xs.length = len at *
      have hcap : (p : Int) + m ≤ len := by omega
      have hm1 : (1 : Int) ≤ m := by omega
      have hm8 : (m : Int) ≤ 8 := by omega
      have hq1 : (p : Int) ≤ len := by omega
      have hq2 : (m : Int) ≤ len - p := by omega
      clear h hp hn hs ha hml hl h2 h3
      go_enter Try.func42, Try.ntmps42
      go_wp2
      go_loop [8, 9] (fun a i => ∃ k : Nat, k ≤ m ∧ i = .int .i64 ((k : Int) - 1) ∧ a = .int .u64 (num (((xs.drop p).take m).drop k))) (fun _ i => (intOf i + 1).toNat)
      case atStart => exact ⟨m, Nat.le_refl _, rfl, by rw [List.drop_of_length_le (by rw [HML.out]; exact Nat.le_refl _)]; rfl⟩
      case round =>
        obtain ⟨k, hk, rfl, rfl⟩ := hrel
        by_cases hlt : 0 < k
        · obtain ⟨j, rfl⟩ : ∃ j, k = j + 1 := ⟨k - 1, by omega⟩
          have hck := hc (p + j) (by omega)
          go_wp2
          exact ⟨⟨j, by omega, rfl, congrArg (Value.int .u64) (get_down (by omega) (by omega) (by omega) hby)⟩, by simp [intOf]⟩
        · obtain rfl : k = 0 := by omega
          go_wp2
          go_ret2
          exact ⟨rfl, rfl⟩

end Go.Proofs.Ytgkgbbffgcmekaa

/-
  The document's own sum (garretref01.Sum): the same plain function.
-/
namespace Go.Proofs.Ytgkgbbffgcmekaa
open Go.RowKit
set_option linter.unusedVariables false

theorem adl_more {xs : List Int} {k : Nat} (h : k < xs.length) {x : Int} (hx : x = xs.getD k 0) : ((adl (xs.take k)).1 + x) % 65521 = (adl (xs.take (k + 1))).1 ∧ ((adl (xs.take k)).2 + ((adl (xs.take k)).1 + x) % 65521) % 65521 = (adl (xs.take (k + 1))).2 := by
  rw [take_one_more h, adl_snoc, hx]; exact ⟨rfl, rfl⟩

set_option maxHeartbeats 400000 in
theorem RSum_any (w : World) (b : Value) (xs : List Int) (h : Row w b xs) :
    Calls Try.prog 60 #[b] w fun e w' => e = .returned (.int .u32 (sumS xs)) ∧ w' = w := by
  have hlm := h.len
  unfold maxLen at hlm
  have hby := h.bys
  by_cases h0 : xs = []
  · subst h0
    obtain ⟨ao, cap, rfl⟩ := h.of_len
    simp only [List.length_nil]
    go_enter Try.func60, Try.ntmps60
    go_wp2
    refine wp_loop_rounds 1 ?_
    rw [rounds_succ]
    go_wp2
    go_ret
    exact ⟨rfl, rfl⟩
  · obtain ⟨bl, off, cap, rfl, hlc, hbl, hc⟩ := h.at h0
    generalize hL : xs.length = len at *
    go_enter Try.func60, Try.ntmps60
    go_wp2
    go_loop [3, 4, 5] (fun p q i => ∃ k : Nat, k ≤ len ∧ i = .int .i64 k ∧ p = .int .i64 (adl (xs.take k)).1 ∧ q = .int .i64 (adl (xs.take k)).2) (fun _ _ i => len - (intOf i).toNat)
    case atStart => exact ⟨0, Nat.zero_le _, rfl, rfl, rfl⟩
    case round =>
      obtain ⟨k, hk, rfl, rfl, rfl⟩ := hrel
      have hr := adl_range (xs.take k)
      by_cases hlt : k < len
      · have hck := hc k hlt
        obtain ⟨x, hx⟩ : ∃ x, x = xs.getD k 0 := ⟨_, rfl⟩
        rw [← hx] at hck
        have HX : Hid (x = xs.getD k 0) := hx
        have hk' : k < xs.length := by omega
        have hxr : 0 ≤ x ∧ x < 256 := hx ▸ hby.at k
        clear hx hc
        go_wp2
        go_round
        case rel => exact ⟨k + 1, by omega, by go_num, congrArg _ (adl_more hk' HX.out).1, congrArg _ (adl_more hk' HX.out).2⟩
        case measure => simp [intOf]; omega
      · obtain rfl : k = len := by omega
        go_wp2
        go_ret
        exact ⟨ret_one (congrArg (Value.int .u32) (by rw [List.take_of_length_le (by omega)]; rfl)), rfl⟩
end Go.Proofs.Ytgkgbbffgcmekaa

/-
  Regions that draw their order: append of a row as one step of such a region; what is held there: nothing old turns.
-/
namespace Go.Proofs.Ytgkgbbffgcmekaa
open Go.RowKit
set_option linter.unusedVariables false

/-- append of a row of bytes, whatever it is, to one that the call owns, as one step of a region that draws. -/
theorem step_append_row {ops : Array Oper} {o : Oper} {a : Act} {w : World} {K : Act → World → Prop} {Q : Exit → Act → World → Prop} {E : Prop} (hw : Region.wanted o (yielded ops a.tmps) = true) (s x : Operand)
    (ho : o.op = .call { callee := .builtin .append, args := #[s, x], argTypes := #[38, 38] })
    (base : Nat) (v xv : Value) (xs ys : List Int) (hs : a.eval s = v) (hown : Own base w v xs) (hx : a.eval x = xv) (hrow : Row w xv ys) (hfit : xs.length + ys.length ≤ 140737488355328) (hbase : base ≤ w.heap.size)
    (hK : ∀ v' w', Own base w' v' (xs ++ ys) → w.grownBy w' v.ownBlock → K (a.put o.dst v') w') : if Region.wanted o (yielded ops a.tmps) = true then Oper.wp Try.prog o a w K Q else E := by
  rw [if_pos hw]
  obtain ⟨i0, hi, hz0, hz1, hz2⟩ := info_parts infoByte
  have hb := hrow.bys
  obtain ⟨ao, cap, rfl, h1, h2, h3, h4, h5⟩ := hrow
  cases ao with
  | none =>
    have hc0 := h3 rfl
    have hl0 : ys = [] := List.eq_nil_of_length_eq_zero (by omega)
    subst hc0
    subst hl0
    have hrun := run_append_owned_none (P := Try.prog) (w := w) base 38 o.type 5 i0 1 Try.underlying38 hi v _ _ hown.1
    unfold Oper.wp
    simp [execOp, ho, resolve, invoke, builtin, hs, hx, hrun, Result.andThen]
    exact hK v w (by rw [List.append_nil]; exact hown) (World.grownBy.refl _ _)
  | some ad =>
    obtain ⟨v', w', hrun, r1, r2, _⟩ := run_append_own (P := Try.prog) (w := w) base 38 o.type 5 i0 (.int .u8 0) 1 1 Try.underlying38 hi hz0 hz1 hz2 rfl (by decide) v _ _ hown.1 ad ys.length cap (bv ys) (by rw [bv_length, Nat.mul_one]) (h4 ad rfl) (bv_one ys) (by unfold maxLen; omega) (by omega) hbase
    unfold Oper.wp
    simp [execOp, ho, resolve, invoke, builtin, hs, hx, hrun, Result.andThen]
    exact hK v' w' ⟨by rw [List.length_append, bv_append]; exact r1, hown.2.app hb⟩ r2

theorem held_size {w0 W : World} {A : Prop} (h : A ∧ Below w0.heap.size w0 W) : w0.heap.size ≤ W.heap.size := h.2.size
theorem held_below {w0 W : World} {A : Prop} (h : A ∧ Below w0.heap.size w0 W) : Below w0.heap.size w0 W := h.2
theorem held_row {w0 W : World} {A : Prop} {v : Value} {xs : List Int} (r : Row w0 v xs) (h : A ∧ Below w0.heap.size w0 W) : Row W v xs := r.below h.2
/-- Two cells that are read, and all that is old, as they were. -/
theorem held_step {w0 W W' : World} {a b : Addr} {u v : Value} (hs : Below w0.heap.size W W') (ha : a.block < w0.heap.size) (hb : b.block < w0.heap.size) (h : (W.cell? a = some u ∧ W.cell? b = some v) ∧ Below w0.heap.size w0 W) :
    (W'.cell? a = some u ∧ W'.cell? b = some v) ∧ Below w0.heap.size w0 W' :=
  ⟨⟨(hs.cell ha).trans h.1.1, (hs.cell hb).trans h.1.2⟩, h.2.trans hs⟩
theorem held_start {w0 : World} {a b : Addr} {u v : Value} (ha : w0.cell? a = some u) (hb : w0.cell? b = some v) : (w0.drew.cell? a = some u ∧ w0.drew.cell? b = some v) ∧ Below w0.heap.size w0 w0.drew :=
  ⟨⟨ha, hb⟩, (Below.refl _ _).drew⟩
end Go.Proofs.Ytgkgbbffgcmekaa

/-
  The document's own records (garretref01.Body, Scan, erased): the same plain functions.
-/
namespace Go.Proofs.Ytgkgbbffgcmekaa
open Go.RowKit
set_option linter.unusedVariables false
set_option maxRecDepth 100000

theorem Rerased_any (w : World) (b : Value) (xs : List Int) (h : Row w b xs) :
    Calls Try.prog 44 #[b] w fun e w' => e = .returned (.bool (clean xs)) ∧ w' = w := by
  have hlm := h.len
  unfold maxLen at hlm
  by_cases h0 : xs = []
  · subst h0
    obtain ⟨ao, cap, rfl⟩ := h.of_len
    simp only [List.length_nil]
    go_enter Try.func44, Try.ntmps44
    go_wp2
    refine wp_loop_rounds 1 ?_
    rw [rounds_succ]
    go_wp2
    go_ret
    exact ⟨rfl, rfl⟩
  · obtain ⟨bl, off, cap, rfl, hlc, hbl, hc⟩ := h.at h0
    generalize hL : xs.length = len at *
    have HL := hide hL
    clear hL h
    go_enter Try.func44, Try.ntmps44
    go_wp2
    go_loop [3] (fun i => ∃ k : Nat, k ≤ len ∧ i = .int .i64 k ∧ clean (xs.take k) = true) (fun i => len - (intOf i).toNat)
    case atStart => exact ⟨0, Nat.zero_le _, rfl, rfl⟩
    case round =>
      obtain ⟨k, hk, rfl, hcl⟩ := hrel
      have HC := hide hcl
      clear hcl
      by_cases hlt : k < len
      · have hck := hc k hlt
        obtain ⟨x, hx⟩ : ∃ x, x = xs.getD k 0 := ⟨_, rfl⟩
        rw [← hx] at hck
        have HX := hide hx
        have hk' : k < xs.length := by rw [HL.out]; exact hlt
        have HK := hide hk'
        clear hx hc hk'
        by_cases he : x = 255
        · subst he
          go_wp2
          go_round
          case rel => exact ⟨k + 1, by omega, by go_num, by rw [take_one_more HK.out, clean, List.all_append, ← HX.out]; simpa [clean] using HC.out⟩
          case measure => simp [intOf]; omega
        · have hne : (x != 255) = true := by simpa using he
          have hd : clean xs = false := by
            unfold clean
            rw [List.all_eq_false]
            refine ⟨x, ?_, by simpa using he⟩
            rw [HX.out]
            simp [List.getD, List.getElem?_eq_getElem HK.out]
          have HD := hide hd
          clear hd he
          go_wp2
          go_ret
          exact ⟨ret_one (congrArg Value.bool HD.out.symm), rfl⟩
      · obtain rfl : k = len := by omega
        have hd : clean xs = true := by
          have := HC.out
          rwa [List.take_of_length_le (by rw [HL.out]; exact Nat.le_refl _)] at this
        have HD := hide hd
        clear hd
        go_wp2
        go_ret
        exact ⟨ret_one (congrArg Value.bool HD.out.symm), rfl⟩

theorem held2 : held 2 = 2 := rfl
/-- What a region holds that only grows. -/
theorem kb_step {w0 W W' : World} (hs : Below W.heap.size W W') (h : Below w0.heap.size w0 W) : Below w0.heap.size w0 W' := h.trans (hs.mono h.size)
theorem kb_own {w0 W W' : World} {v : Value} {xs : List Int} {base : Nat} (ho : Own base W v xs) (hg : W.grownBy W' v.ownBlock) (hb : w0.heap.size ≤ base) (h : Below w0.heap.size w0 W) : Below w0.heap.size w0 W' := ho.grown_below h hg hb h.size
theorem kb_row {w0 W : World} {v : Value} {xs : List Int} (r : Row w0 v xs) (h : Below w0.heap.size w0 W) : Row W v xs := r.below h
theorem kb_size {w0 W : World} (h : Below w0.heap.size w0 W) : w0.heap.size ≤ W.heap.size := h.size
set_option maxHeartbeats 1000000 in
theorem RBody_any (w : World) (b : Value) (xs : List Int) (h : Row w b xs) :
    Calls Try.prog 43 #[b] w (Wrote w (bodyS xs)) := by
  have hlen := h.lenRun
  by_cases hn : xs.length ≤ 65000
  · rw [show bodyS xs = (bodyB xs, 0) from by unfold bodyS; rw [if_neg (by omega)]]
    have hn' : (xs.length : Int) ≤ 65000 := by omega
    have HB := hide h
    have hfr := fsum_range xs
    have HX := hide hn
    have HL := hide (lenB_length xs)
    have HWL := hide (show IntKind.u64.wrap (xs.length : Int) = xs.length by rw [IntKind.wrap_u64]; omega)
    have hput := refPut_any w (.slice none 0 0) [] (xs.length : Int) 2 (Row.nil _) (by simp) (by omega) (by omega)
    rw [List.nil_append, held2] at hput
    clear h hn
    obtain ⟨fs, hfs⟩ : ∃ z, fsum xs = z := ⟨_, rfl⟩
    rw [hfs] at hfr
    have HFS := hide hfs
    have HWF := hide (show IntKind.u64.wrap fs = fs by rw [IntKind.wrap_u64]; omega)
    clear hfs
    go_enter Try.func43, Try.ntmps43
    go_wp2_with fail
    refine hput.mono ?_
    rintro e w1 ⟨u1, rfl, ho1, hb1⟩
    go_wp2_with (at_builtin; refine wpList_append_row rfl _ _ rfl w.heap.size _ _ (lenB xs) xs rfl ho1 rfl (HB.out.below hb1) (by rw [HL.out]; have := HX.out; omega) hb1.size ?_)
    intro v2 w2 ho2 hg2
    have hb2 : Below w.heap.size w w2 := ho1.grown_below hb1 hg2 (Nat.le_refl _) hb1.size
    have hol : (lenB xs ++ xs).length = xs.length + 2 := by rw [List.length_append, HL.out]; omega
    obtain ⟨g, cap, rfl, hg0, hg1, hgc⟩ := ho2.form (by omega)
    have hcut := ho2.row.cut 2 (by omega)
    rw [List.take_left' HL.out] at hcut
    rw [hol] at hgc
    have hcap2 : (2 : Int) ≤ cap := by omega
    have HR2 := hide ho2.row
    have HC2 := hide hcut
    clear ho1 hg2 hput hcut ho2 hb1
    have HRX := hide (HB.out.below hb2)
    have HFS2 : Hid (sumS (lenB xs ++ xs) = fs) := HFS.out
    have HL3 := hide (show (lenB xs ++ low fs (held 4)).length = 6 by rw [List.length_append, HL.out, low_length]; rfl)
    rw [hol] at HR2 ⊢
    have hb2' := hb2
    clear hol
    go_wp2_with fail
    go_region_held3 (fun w' => Below w2.heap.size w2 w')
      (first
        | assumption
        | exact (Below.refl _ _).drew
        | exact kb_step hb5 (by assumption)
        | exact kb_own ho5' hg6 (Nat.le_refl _) (by assumption)
        | fail)
      (first
        | (go_at_call 60; refine (RSum_any _ _ _ (kb_row HR2.out (by assumption))).mono ?_; rintro e w4 ⟨rfl, rfl⟩; rw [HFS2.out])
        | (go_at_call 59; (try rw [HWF.out]); refine (refPut_any _ _ (lenB xs) fs 4 (kb_row HC2.out (by assumption)) (by rw [HL.out]; omega) hfr.1 (by omega)).mono ?_; rintro e w5 ⟨u5, rfl, ho5, hb5⟩; have ho5' := ho5.mono (kb_size (w0 := w2) (by assumption)))
        | (refine step_append_row (by rfl) _ _ (by rfl) w2.heap.size u5 _ (lenB xs ++ low fs (held 4)) xs (by rfl) ho5' (by rfl) (kb_row HRX.out (by assumption)) (by rw [HL3.out]; have := HX.out; omega) (kb_size (by assumption)) ?_; intro v6 w6 ho6 hg6)
        | fail)
    all_goals
      have hBe : Below w.heap.size w w6 := hb2.trans (Below.mono (by assumption : Below w2.heap.size w2 w6) hb2.size)
      go_wp2
      go_ret2
      refine ⟨_, rfl, ?_, hBe⟩
      unfold bodyB
      rw [HFS.out]
      exact ho6.mono hb2.size
  · rw [show bodyS xs = ([], 21) from by unfold bodyS; rw [if_pos (by omega)]]
    have hn' : (65000 : Int) < xs.length := by omega
    clear h
    go_enter Try.func43, Try.ntmps43
    go_wp2
    go_ret2
    exact ⟨_, rfl, Own.nil _ _, Below.refl _ _⟩
end Go.Proofs.Ytgkgbbffgcmekaa

/-
  The document's own half: Wipe, AppendHalf.
-/
namespace Go.Proofs.Ytgkgbbffgcmekaa
open Go.RowKit
set_option linter.unusedVariables false
set_option maxRecDepth 100000

theorem half_cmp {hf : Int} (hh : isHalf hf = true) : ((hf != 0) = false) ∨ ((hf != 0) = true ∧ (hf != 1) = false) := by
  have : hf = 0 ∨ hf = 1 := by simpa [isHalf] using hh
  rcases this with rfl | rfl <;> simp
theorem half_cmp_no {hf : Int} (hh : isHalf hf = false) : (hf != 0) = true ∧ (hf != 1) = true := by
  simp [isHalf] at hh
  obtain ⟨h0, h1⟩ := hh
  exact ⟨by simpa using h0, by simpa using h1⟩

set_option maxHeartbeats 600000 in
theorem RHWipe_any (base : Nat) (w : World) (L : Lay) (S : PSt) (N : NSt) (n : Nat) (h : RDev base w L S N) (okS : S.Ok n) (ok : N.Ok n) (hn : n < 700000) (hf : Int) :
    Calls Try.prog 14 #[.pointer (some ⟨L.c, 0, none⟩), .int .i64 hf] w fun e w' =>
      e = .returned (.int .i64 (wipeH S N hf).1) ∧ RDev base w' L (wipeH S N hf).2.1 (wipeH S N hf).2.2 ∧ Only [L.pb, L.bb, L.eb] w w' := by
  by_cases hh : isHalf hf = true
  · have e1 : wipeH S N hf = wipeF hf.toNat (halfN N) (halfN N) S N := by unfold wipeH; rw [hh]; rfl
    rw [e1]
    have hcmp := half_cmp hh
    have hA1 := ok.A1
    have hA0 := ok.A0
    have hK : halfN N ≤ 8 := by unfold halfN; omega
    have hKA : (N.A : Int) / 2 = (halfN N : Int) := by unfold halfN; omega
    have c0 := h.2.blk.cell 0
    simp [ccells] at c0
    obtain ⟨F, rfl, hF⟩ : ∃ F : Nat, hf = (F : Int) ∧ F ≤ 1 := by
      have : hf = 0 ∨ hf = 1 := by simpa [isHalf] using hh
      rcases this with rfl | rfl
      · exact ⟨0, rfl, by omega⟩
      · exact ⟨1, rfl, by omega⟩
    rw [Int.toNat_natCast]
    have HD := hide h
    generalize halfN N = K at *
    obtain ⟨M, hM, hM2⟩ : ∃ M : Nat, F * K = M ∧ M ≤ 8 := ⟨F * K, rfl, by have := Nat.mul_le_mul hF hK; omega⟩
    have hmw0 : (F : Int) * (K : Int) = (M : Int) := by rw [← hM]; simp
    have hmw : IntKind.i64.wrap ((F : Int) * (K : Int)) = (M : Int) := by rw [hmw0]; exact i64_in _ (by omega)
    have hmu0 : ((F : Int) + 1) * (K : Int) = ((M + K : Nat) : Int) := by rw [Int.add_mul, hmw0]; omega
    have hmu : IntKind.i64.wrap (((F : Int) + 1) * (K : Int)) = ((M + K : Nat) : Int) := by rw [hmu0]; exact i64_in _ (by omega)
    obtain ⟨U, hU⟩ : ∃ U, M + K = U := ⟨_, rfl⟩
    rw [hU] at hmu
    have hU2 : U ≤ 16 := by omega
    have HU := hide hU
    have HOK := hide okS
    have HON := hide ok
    clear h hh e1 okS ok hmw0 hmu0 hU
    rcases hcmp with hc0 | ⟨hc0, hc1⟩
    all_goals
      go_enter Try.func14, Try.ntmps14
      go_wp2_with fail
      go_loopw [6, 7] (fun i _ wr => ∃ (k : Nat) (S' : PSt) (N' : NSt), k ≤ K ∧ i = .int .i64 ((M : Int) + (k : Int) - 1) ∧ RDev base wr L S' N' ∧ wipeF F K K S N = wipeF F K k S' N' ∧ S'.Ok (n + (K - k)) ∧ N'.Ok (n + (K - k)) ∧ Only [L.pb, L.bb, L.eb] w wr) (fun i _ _ => (intOf i + 1 - M).toNat)
      case atStart => exact ⟨K, S, N, Nat.le_refl _, by have := HU.out; congr 1; omega, HD.out, rfl, by simpa using HOK.out, by simpa using HON.out, Only.refl _ _⟩
      case round =>
        obtain ⟨k, S', N', hk, rfl, hD, hW, hS, hN, hO⟩ := hrel
        cases k with
        | zero =>
          have HW := hide hW
          clear hW
          go_wp2
          go_ret
          rw [HW.out]
          exact ⟨rfl, hD, hO⟩
        | succ k =>
          have hk1 : (M : Int) + ((k + 1 : Nat) : Int) - 1 = ((M + k : Nat) : Int) := by omega
          rw [hk1]
          have her := RErase_any base wr L S' N' (n + (K - (k + 1))) hD hS hN (by omega) ((M + k : Nat) : Int) (wf_i64 (by omega) (by omega))
          have hok := eraseA_ok (s := ((M + k : Nat) : Int)) hS hN
          have hcode := eraseA_code S' N' ((M + k : Nat) : Int)
          rw [wipeF, hM] at hW
          obtain ⟨⟨x, S1, N1⟩, hq⟩ : ∃ r, eraseA S' N' ((M + k : Nat) : Int) = r := ⟨_, rfl⟩
          rw [hq] at her hok hcode hW
          simp only at her hok hcode hW
          have hS1 : S1.Ok (n + (K - k)) := hok.1.more (by omega)
          have hN1 : N1.Ok (n + (K - k)) := hok.2.more (by omega)
          have hkk : k < K := by omega
          obtain ⟨R, hR⟩ : ∃ R, M + k = R := ⟨_, rfl⟩
          have hge : (M : Int) ≤ (R : Int) := by omega
          have hRk : Hid (R = M + k) := hide hR.symm
          rw [hR] at her ⊢
          clear hq hok hD hS hN hk1 hR hk
          by_cases hx : x = 0
          · subst hx
            rw [if_pos rfl] at hW
            have HW := hide hW
            have HS1 := hide hS1
            have HN1 := hide hN1
            clear hW hcode hS1 hN1
            go_wp2_with fail
            refine her.mono ?_
            rintro e w5 ⟨rfl, hD5, hO5⟩
            go_wp2
            exact ⟨⟨k, S1, N1, by omega, by have h1 := hRk.out; have h2 : wrap64 ((R : Int) - 1) = (R : Int) - 1 := IntWalk.wrap64_in _ (by omega); congr 1; omega, hD5, HW.out, HS1.out, HN1.out, hO.trans hO5⟩, by have h1 := hRk.out; have h2 : wrap64 ((R : Int) - 1) = (R : Int) - 1 := IntWalk.wrap64_in _ (by omega); simp only [intOf, h2]; omega⟩
          · rw [if_neg hx] at hW
            have hx' : (x != 0) = true := by simpa using hx
            have HW := hide hW
            clear hW hcode hS1 hN1 hx
            go_wp2_with fail
            refine her.mono ?_
            rintro e w5 ⟨rfl, hD5, hO5⟩
            go_wp2
            go_ret
            rw [HW.out]
            exact ⟨rfl, hD5, hO.trans hO5⟩
  · have hh' : isHalf hf = false := by simpa using hh
    have e1 : wipeH S N hf = (1, S, N) := by unfold wipeH; rw [hh']; rfl
    rw [e1]
    obtain ⟨hc0, hc1⟩ := half_cmp_no hh'
    clear e1 okS ok hh hh'
    go_enter Try.func14, Try.ntmps14
    go_wp2
    go_ret
    exact ⟨rfl, h, Only.refl _ _⟩

set_option maxHeartbeats 600000 in
theorem RAppendHalf_any (base : Nat) (w : World) (L : Lay) (S : PSt) (N : NSt) (n : Nat) (h : RDev base w L S N) (okS : S.Ok n) (ok : N.Ok n) (hr : rightS N.A N.B N.c N.d N.e = true) (hn : n < 700000) (hsz : base ≤ w.heap.size) (hf q : Int) (hq : (Lit.int .i64 q).wf = true)
    (v : Value) (b : List Int) (hv : Row w v b) :
    Calls Try.prog 22 #[.pointer (some ⟨L.c, 0, none⟩), .int .i64 hf, .int .i64 q, v] w fun e w' =>
      e = .returned (.int .i64 (appH S N hf q b).1) ∧ RDev base w' L (appH S N hf q b).2.1 { N with bs := (appH S N hf q b).2.2 } ∧ Only [L.pb, L.bb] w w' := by
  by_cases hh : isHalf hf = true
  · have hcmp := half_cmp hh
    have hf01 : hf = 0 ∨ hf = 1 := by simpa [isHalf] using hh
    by_cases hq0 : q < 0
    · have e1 : appH S N hf q b = (1, S, N.bs) := by unfold appH; rw [if_pos (.inr hq0)]
      rw [e1]
      clear e1 okS ok hr hv hq hh hf01
      rcases hcmp with hc0 | ⟨hc0, hc1⟩
      all_goals
        go_enter Try.func22, Try.ntmps22
        go_wp2
        go_ret
        exact ⟨rfl, h, Only.refl _ _⟩
    · have hbo := RBody_any w v b hv
      have hq' := of_wf_i64 hq
      have hq0' : ¬ (q < 0) := hq0
      by_cases hbig : 65000 < b.length
      · have e1 : appH S N hf q b = (21, S, N.bs) := by unfold appH; rw [if_neg (by rw [hh]; simp; omega), if_pos hbig]
        have e2 : bodyS b = ([], 21) := by unfold bodyS; rw [if_pos hbig]
        rw [e1]
        rw [e2] at hbo
        have HD := hide h
        clear e1 e2 okS ok hr hv hq h hbig hh hf01
        rcases hcmp with hc0 | ⟨hc0, hc1⟩
        all_goals
          go_enter Try.func22, Try.ntmps22
          go_wp2_with fail
          refine hbo.mono ?_
          rintro e w2 ⟨u, rfl, hu, hb2⟩
          go_wp2
          go_ret
          exact ⟨rfl, HD.out.still (only_below hb2), only_below hb2⟩
      · have e2 : bodyS b = (bodyB b, 0) := by unfold bodyS; rw [if_neg hbig]
        rw [e2] at hbo
        have hss := fun w => RHalfSize_any w N.A N.B N.c N.d N.e hr
        rw [show N.A / 2 * N.B = halfZ N from rfl] at hss
        have hbz := halfZ_big ok
        have hal : appH S N hf q b = if (halfZ N : Int) - q < (b.length : Int) + 7 then (10, S, N.bs) else progR S N.bs (hf * (halfZ N : Int) + q) (bodyB b) := by
          unfold appH; rw [if_neg (by rw [hh]; simp; omega), if_neg hbig]
        rw [hal]
        have hbl : b.length ≤ 65000 := by omega
        have HD := hide h
        have HB := hide hv.bys
        have hlt := h.2.lt
        have hpL := hlt.2.1
        have hbL := hlt.2.2.1
        obtain ⟨P, hP, hP1⟩ : ∃ P : Nat, hf * (halfZ N : Int) = (P : Int) ∧ P ≤ 32768 := by
          rcases hf01 with rfl | rfl
          · exact ⟨0, by simp, by omega⟩
          · exact ⟨halfZ N, by simp, by omega⟩
        rw [hP]
        have hmw : IntKind.i64.wrap (hf * (halfZ N : Int)) = (P : Int) := by rw [hP]; exact i64_in _ (by omega)
        have HSZ := hide hsz
        have HN := hide hn
        have HBL := hide (bodyB_length b)
        have HOK := hide ok
        have HOS := hide okS
        have hcellG : ∀ W, Chip 74 base W L N → W.cell? ⟨L.c, 0, none⟩ = some (.int .i64 N.A) ∧ W.cell? ⟨L.c, 1, none⟩ = some (.int .i64 N.B) ∧ W.cell? ⟨L.c, 2, none⟩ = some (.int .i64 N.c) ∧ W.cell? ⟨L.c, 3, none⟩ = some (.int .i64 N.d) ∧ W.cell? ⟨L.c, 4, none⟩ = some (.int .i64 N.e) := fun W hW =>
          ⟨(hW.blk.cell 0).trans rfl, (hW.blk.cell 1).trans rfl, (hW.blk.cell 2).trans rfl, (hW.blk.cell 3).trans rfl, (hW.blk.cell 4).trans rfl⟩
        have HCG := hide hcellG
        generalize hZ : halfZ N = Z at *
        obtain ⟨len, hlen⟩ : ∃ z, b.length = z := ⟨_, rfl⟩
        rw [hlen] at HBL ⊢
        clear e2 okS ok hr hv hq h hbig hal hh hlt hZ hsz hn hcellG hf01
        unfold gcells at hss
        have hbl' : len ≤ 65000 := by omega
        clear hbl hlen
        by_cases hsp : (Z : Int) - q < (len : Int) + 7
        · rw [if_pos hsp]
          have hg : ((Z : Int) < q) ∨ (¬ ((Z : Int) < q) ∧ (Z : Int) - q < (len : Int) + 6 + 1) := by omega
          have hsp2 : (Z : Int) - q < ((len + 6 : Nat) : Int) + 1 := by omega
          clear hsp
          rcases hg with hg | ⟨hg, hg2⟩ <;> rcases hcmp with hc0 | ⟨hc0, hc1⟩
          all_goals
            go_enter Try.func22, Try.ntmps22
            go_wp2_with fail
            refine hbo.mono ?_
            rintro e w2 ⟨u, rfl, hu, hb2⟩
            have hD2 := HD.out.still (only_below hb2)
            obtain ⟨c0, c1, c2, c3, c4⟩ := HCG.out w2 hD2.2
            obtain ⟨uo, ucap, rfl⟩ := hu.row.of_len
            rw [HBL.out]
            go_wp2_with fail
            refine (hss _).mono ?_
            rintro e w4 ⟨rfl, hb4⟩
            have hb14 := kl_step hb4 hb2
            clear hss hb2 hb4 hD2 c0 c1 c2 c3 c4
            go_wp2
            go_ret
            exact ⟨rfl, HD.out.still (only_below hb14), only_below hb14⟩
        · rw [if_neg hsp]
          obtain ⟨Q, rfl⟩ := Int.eq_ofNat_of_zero_le (show 0 ≤ q by omega)
          have hsp1 : ¬ ((Z : Int) < (Q : Int)) := by omega
          have hsp2 : ¬ ((Z : Int) - (Q : Int) < ((len + 6 : Nat) : Int) + 1) := by omega
          have haw : IntKind.i64.wrap ((P : Int) + (Q : Int)) = ((P + Q : Nat) : Int) := by rw [i64_in _ (by omega)]; simp
          rw [show (P : Int) + (Q : Int) = ((P + Q : Nat) : Int) by simp]
          have hPQ : P + Q ≤ 70000 := by omega
          generalize P + Q = R at *
          have hrp := fun w' (hd : RDev base w' L S N) (u : Value) (hu : Row w' u (bodyB b)) hsep => RProgram_any base w' L S N n hd HOS.out HOK.out (by have := HN.out; omega) (R : Int) (wf_i64 (by omega) (by omega)) u (bodyB b) hu (by rw [HBL.out]; omega) hsep
          have hok1 := progA_ok (p := (R : Int)) HOS.out HOK.out.bys (bodyB_bys HB.out)
          unfold progR
          obtain ⟨⟨x1, S1, bs1⟩, hqq⟩ : ∃ r, progA S N.bs (R : Int) (bodyB b) = r := ⟨_, rfl⟩
          rw [hqq] at hrp hok1 ⊢
          simp only at hrp hok1 ⊢
          rw [HBL.out] at hok1 ⊢
          have ok1 : NSt.Ok { N with bs := bs1 } (n + (len + 6)) := (HOK.out.more (by omega)).bytes hok1.2.1 hok1.2.2
          have okS1 := hok1.1
          obtain ⟨T, hT⟩ : ∃ T : Nat, R + (len + 6) = T := ⟨_, rfl⟩
          have hwT : IntKind.i64.wrap ((R : Int) + ((len + 6 : Nat) : Int)) = (T : Int) := by rw [i64_in _ (by omega)]; omega
          rw [show (R : Int) + ((len + 6 : Nat) : Int) = (T : Int) by omega]
          have hTb : Hid (T ≤ 200000) := hide (by omega)
          have HO1 := hide ok1
          have HS1 := hide okS1
          obtain ⟨m6, hm6⟩ : ∃ m, len + 6 = m := ⟨_, rfl⟩
          have HM6 := hide hm6
          have HBM : Hid ((bodyB b).length = m6) := hide (by rw [HBL.out]; exact hm6)
          rw [hm6] at hwT hsp2
          have hnb : Hid (n + (len + 6) < 800000) := hide (by have := HN.out; omega)
          clear hqq hok1 hT ok1 okS1 hm6
          by_cases hx : x1 = 0
          · subst hx
            rw [if_pos rfl]
            rcases hcmp with hc0 | ⟨hc0, hc1⟩
            all_goals
              go_enter Try.func22, Try.ntmps22
              go_wp2_with fail
              refine hbo.mono ?_
              rintro e w2 ⟨u, rfl, hu, hb2⟩
              have hD2 := HD.out.still (only_below hb2)
              obtain ⟨c0, c1, c2, c3, c4⟩ := HCG.out w2 hD2.2
              have hfrom := hu.from
              obtain ⟨uo, ucap, rfl⟩ := hu.row.of_len
              rw [HBM.out] at hfrom ⊢
              go_wp2_with fail
              refine (hss _).mono ?_
              rintro e w4 ⟨rfl, hb4⟩
              have hb14 := kl_step hb4 hb2
              have hu4 := hu.kept hb4
              rw [HBM.out] at hu4
              have hsz4 := Nat.le_trans HSZ.out hb14.size
              have hp4 := hrp w4 (HD.out.still (only_below hb14)) (.slice uo m6 ucap) hu4.row (by
                intro _ vb off n' cap e
                have := hfrom vb off n' cap e
                have := HSZ.out
                simp
                omega)
              clear hrp hss hb2 hb4 hD2 hu hu4 hfrom c0 c1 c2 c3 c4
              go_wp2_with fail
              refine hp4.mono ?_
              rintro e w5 ⟨rfl, hD5, hO5⟩
              have hO15 := (only_below (l := [L.pb, L.bb]) hb14).trans hO5
              have hsz5 : base ≤ w5.heap.size := Nat.le_trans hsz4 hO5.size
              have hrow : Row (w5.alloc (.cells #[.int .u8 0] 5)) (.slice (some ⟨w5.heap.size, 0, none⟩) 1 1) [0] := row_new1 w5 0 (by omega)
              have hD6 := hD5.still (only_grown (World.grownBy_alloc w5 (.cells #[.int .u8 0] 5) none) (by simp))
              have hO6 : Only [L.pb, L.bb] w (w5.alloc (.cells #[.int .u8 0] 5)) := hO15.trans (only_grown (World.grownBy_alloc w5 (.cells #[.int .u8 0] 5) none) (by simp))
              have hpg2 := RProgram_any base _ L S1 { N with bs := bs1 } (n + (len + 6)) hD6 HS1.out HO1.out hnb.out T (wf_i64 (by omega) (by have := hTb.out; omega)) _ [0] hrow (by simp) (by intro _ vb off n cap e; simp at e ⊢; omega)
              simp only at hpg2
              clear hp4 hD5 hO5 hrow hD6 hb14
              go_wp2_with fail
              refine hpg2.mono ?_
              rintro e w7 ⟨rfl, hD7, hO7⟩
              go_wp2
              go_ret
              exact ⟨rfl, hD7, hO6.trans hO7⟩
          · rw [if_neg hx]
            have hx' : (x1 != 0) = true := by simpa using hx
            clear hx
            rcases hcmp with hc0 | ⟨hc0, hc1⟩
            all_goals
              go_enter Try.func22, Try.ntmps22
              go_wp2_with fail
              refine hbo.mono ?_
              rintro e w2 ⟨u, rfl, hu, hb2⟩
              have hD2 := HD.out.still (only_below hb2)
              obtain ⟨c0, c1, c2, c3, c4⟩ := HCG.out w2 hD2.2
              have hfrom := hu.from
              obtain ⟨uo, ucap, rfl⟩ := hu.row.of_len
              rw [HBM.out] at hfrom ⊢
              go_wp2_with fail
              refine (hss _).mono ?_
              rintro e w4 ⟨rfl, hb4⟩
              have hb14 := kl_step hb4 hb2
              have hu4 := hu.kept hb4
              rw [HBM.out] at hu4
              have hsz4 := Nat.le_trans HSZ.out hb14.size
              have hp4 := hrp w4 (HD.out.still (only_below hb14)) (.slice uo m6 ucap) hu4.row (by
                intro _ vb off n' cap e
                have := hfrom vb off n' cap e
                have := HSZ.out
                simp
                omega)
              clear hrp hss hb2 hb4 hD2 hu hu4 hfrom c0 c1 c2 c3 c4
              go_wp2_with fail
              refine hp4.mono ?_
              rintro e w5 ⟨rfl, hD5, hO5⟩
              have hO15 := (only_below (l := [L.pb, L.bb]) hb14).trans hO5
              go_wp2
              go_ret
              exact ⟨rfl, hD5, hO15⟩
  · have hh' : isHalf hf = false := by simpa using hh
    have e1 : appH S N hf q b = (1, S, N.bs) := by unfold appH; rw [if_pos (.inl hh')]
    rw [e1]
    obtain ⟨hc0, hc1⟩ := half_cmp_no hh'
    clear e1 okS ok hr hv hq hh hh'
    go_enter Try.func22, Try.ntmps22
    go_wp2
    go_ret
    exact ⟨rfl, h, Only.refl _ _⟩
end Go.Proofs.Ytgkgbbffgcmekaa

/-
  The document's own Scan: what it finds is what the program finds.
-/
namespace Go.Proofs.Ytgkgbbffgcmekaa
open Go.RowKit
set_option linter.unusedVariables false
set_option maxRecDepth 100000

theorem saidN_num {ys : List Int} (hb : Bys ys) (h2 : 2 ≤ ys.length) : num (ys.take 2) = (saidN ys : Int) := by
  match ys, h2 with
  | a :: b :: t, _ =>
    have ha := hb a (by simp)
    have hb' := hb b (by simp)
    simp [num, saidN, List.getD]
    omega
theorem lenB_take {ys : List Int} (hb : Bys ys) (h2 : 2 ≤ ys.length) {x : List Int} (hx : x.length = saidN ys) : lenB x = ys.take 2 := by
  unfold lenB
  rw [hx, ← saidN_num hb h2]
  have := low_num (hb.take 2)
  rwa [show (ys.take 2).length = 2 from by simp; omega] at this
theorem body_iff {ys : List Int} (hb : Bys ys) {N : Nat} (hN : saidN ys = N) (h7 : N + 7 ≤ ys.length) : bodyB ((ys.drop 6).take N) = ys.take (6 + N) ↔ fsum ((ys.drop 6).take N) = num ((ys.drop 2).take 4) := by
  have hxl : ((ys.drop 6).take N).length = saidN ys := by rw [hN]; simp; omega
  have e : ys.take (6 + N) = ys.take 2 ++ (ys.drop 2).take 4 ++ (ys.drop 6).take N := by
    rw [List.take_add, show (6 : Nat) = 2 + 4 from rfl, List.take_add]
  have hm : ((ys.drop 2).take 4).length = 4 := by simp; omega
  have hr := fsum_range ((ys.drop 6).take N)
  unfold bodyB
  rw [lenB_take hb (by omega) hxl, e]
  generalize (ys.drop 6).take N = x at *
  generalize hM : (ys.drop 2).take 4 = m at *
  have hbm : Bys m := by rw [← hM]; exact (hb.drop 2).take 4
  constructor
  · intro h
    have h1 := List.append_cancel_right h
    have h2 := List.append_cancel_left h1
    rw [← h2, num_low, Int.emod_eq_of_lt hr.1 (by simpa using hr.2)]
  · intro h
    rw [h]
    have := low_num hbm
    rw [hm] at this
    rw [this]
theorem firstS_ref {ys : List Int} (hb : Bys ys) {N : Nat} (hN : saidN ys = N) (hbig : N ≤ 65000) (h7 : N + 7 ≤ ys.length) (hf : ys.getD (N + 6) 0 = 0) :
    firstS ys = if bodyB ((ys.drop 6).take N) = ys.take (6 + N) then some ((ys.drop 6).take N) else none := by
  unfold firstS
  rw [if_neg (by omega), hN, if_neg (by rw [hf]; omega)]
  by_cases h : fsum ((ys.drop 6).take N) = num ((ys.drop 2).take 4)
  · rw [if_pos h, if_pos ((body_iff hb hN h7).2 h)]
  · rw [if_neg h, if_neg (fun k => h ((body_iff hb hN h7).1 k))]
theorem firstS_no {ys : List Int} {N : Nat} (hN : saidN ys = N) (h : 65000 < N ∨ ys.length < N + 7 ∨ ys.getD (N + 6) 0 ≠ 0) : firstS ys = none := by
  unfold firstS
  split
  · rfl
  · rw [hN, if_pos h]
set_option maxHeartbeats 4000000 in
theorem RScan_any (w : World) (v : Value) (xs : List Int) (h : Row w v xs) (hn : xs.length ≤ 1000000000) :
    Calls Try.prog 20 #[v] w (Scanned w xs) := by
  have HR := hide h
  have hlen := h.lenRun
  have hxb := h.bys
  clear h
  have HN := hide hn
  go_enter Try.func20, Try.ntmps20
  go_wp2
  go_loopw [5, 6] (fun l i wr => ∃ (us : List Value) (bss : List (List Int)) (n : Nat), i = .int .i64 n ∧ VOwn w.heap.size wr l us ∧ Owns w.heap.size wr us bss ∧ Seen xs bss n ∧ Below w.heap.size w wr) (fun _ i _ => xs.length - (intOf i).toNat)
  case atStart => exact ⟨[], [], 0, rfl, VOwn.nil _ _, Owns.nil _ _, .none, Below.refl _ _⟩
  case round =>
    obtain ⟨us, bss, n, rfl, hv, ho, hs, hb⟩ := hrel
    have hle := hs.le
    have hr := HR.out.below hb
    obtain ⟨v', hsl, hr'⟩ := hr.from n hle.1
    have HS := hide hs
    have HO := hide ho
    have HV := hide hv
    have HR' := hide hr'
    have HRR := hide hr
    have hG := refGet_any wr v xs n 2 hr (wf_i64 (by omega) (by omega)) (by decide)
    have hby : Bys (xs.drop n) := hxb.drop n
    clear hs ho hv hr' hr
    by_cases h2 : xs.length < n + 2
    · rw [show getS xs n 2 = (0, 3) from by unfold getS; rw [if_neg (by omega), if_pos (by omega)]] at hG
      have HF := hide (show firstS (xs.drop n) = none from firstS_short (by simp; omega))
      go_wp2_with fail
      refine hG.mono ?_
      rintro e w1 ⟨rfl, rfl⟩
      go_wp2_with fail
      refine (Rerased_any _ v' _ HR'.out).mono ?_
      rintro e w2 ⟨rfl, rfl⟩
      go_wp2
      go_ret3
      exact ⟨_, us, bss, n, rfl, HV.out, HO.out, ⟨HS.out, HF.out⟩, hb⟩
    · have hln : (xs.drop n).length = xs.length - n := by simp
      obtain ⟨N, hN⟩ : ∃ N : Nat, saidN (xs.drop n) = N := ⟨_, rfl⟩
      have hgs : getS xs n 2 = ((N : Int), 0) := by
        unfold getS
        rw [if_neg (by omega), if_neg (by omega), ← hN, ← saidN_num hby (by omega)]
        rfl
      rw [hgs] at hG
      have hNb : N < 70000 := by
        have h1 := hby.at 0
        have h2 := hby.at 1
        unfold saidN at hN
        omega
      have HG := hide hG
      have HNN := hide hN
      have HNB := hide hNb
      have hNb' : (N : Int) < 70000 := by omega
      clear hG hgs hN
      by_cases hbig : 65000 < N
      · have HF := hide (firstS_no HNN.out (.inl hbig))
        have hbig' : (65000 : Int) < N := by omega
        go_wp2_with fail
        refine Calls.mono HG.out ?_
        rintro e w1 ⟨rfl, rfl⟩
        go_wp2_with fail
        refine (Rerased_any _ v' _ HR'.out).mono ?_
        rintro e w2 ⟨rfl, rfl⟩
        go_wp2
        go_ret3
        exact ⟨_, us, bss, n, rfl, HV.out, HO.out, ⟨HS.out, HF.out⟩, hb⟩
      · have hbig' : (N : Int) ≤ 65000 := by omega
        by_cases h7 : xs.length - n < N + 7
        · have HF := hide (firstS_no HNN.out (.inr (.inl (by rw [hln]; exact h7))))
          have h7' : (xs.length : Int) - n < N + 7 := by omega
          go_wp2_with fail
          refine Calls.mono HG.out ?_
          rintro e w1 ⟨rfl, rfl⟩
          go_wp2_with fail
          refine (Rerased_any _ v' _ HR'.out).mono ?_
          rintro e w2 ⟨rfl, rfl⟩
          go_wp2
          go_ret3
          exact ⟨_, us, bss, n, rfl, HV.out, HO.out, ⟨HS.out, HF.out⟩, hb⟩
        · have h7' : (N : Int) + 7 ≤ xs.length - n := by omega
          obtain ⟨p, hix, hcp⟩ := HRR.out.idx (n + N + 6) (by omega)
          have ef : xs.getD (n + N + 6) 0 = (xs.drop n).getD (N + 6) 0 := by simp [List.getD, Nat.add_assoc]
          rw [ef] at hcp
          rw [show ((n + N + 6 : Nat) : Int) = (n : Int) + N + 6 from by omega] at hix
          by_cases hf : (xs.drop n).getD (N + 6) 0 = 0
          · have HF := hide (firstS_ref hby HNN.out (by omega) (by omega) hf)
            rw [hf] at hcp
            obtain ⟨xv, hsx, hrx⟩ := HRR.out.btw (n + 6) (n + 6 + N) (by omega) (by omega)
            obtain ⟨yv, hsy, hry⟩ := HRR.out.btw n (n + 6 + N) (by omega) (by omega)
            rw [show n + 6 + N - (n + 6) = N from by omega, ← List.drop_drop] at hrx
            rw [show n + 6 + N - n = 6 + N from by omega] at hry
            rw [show ((n + 6 : Nat) : Int) = (n : Int) + 6 from by omega, show ((n + 6 + N : Nat) : Int) = (n : Int) + 6 + N from by omega] at hsx
            rw [show ((n + 6 + N : Nat) : Int) = (n : Int) + 6 + N from by omega] at hsy
            have hxl : (((xs.drop n).drop 6).take N).length = N := by simp; omega
            generalize ((xs.drop n).drop 6).take N = x at *
            generalize (xs.drop n).take (6 + N) = y at *
            have hBS : bodyS x = (bodyB x, 0) := by unfold bodyS; rw [if_neg (by omega)]
            have HBS := hide hBS
            have HXL := hide hxl
            have HRX := hide hrx
            have HRY := hide hry
            have hybys := hry.bys
            have hxbys := bodyB_bys hrx.bys
            clear hBS hxl hrx hry ef hf HRR hNb' HNB hNb
            by_cases he : bodyB x = y
            · rw [if_pos he] at HF
              subst he
              go_wp2_with fail
              refine Calls.mono HG.out ?_
              rintro e w1 ⟨rfl, rfl⟩
              go_wp2_with (at_builtin; refine wpList_append_row rfl _ _ rfl w.heap.size _ _ [] x rfl (Own.nil _ _) rfl HRX.out (by rw [HXL.out]; simp; omega) hb.size ?_)
              intro u1 w2 ho1 hg1
              have hB2 : Below w.heap.size w w2 := (Own.nil w.heap.size w1).grown_below hb hg1 (Nat.le_refl _) hb.size
              have hg12 : Below w1.heap.size w1 w2 := grown_below hg1
              try rw [List.nil_append] at ho1
              have HO1 := hide ho1
              have HV2 := hide (HV.out.kept hg12)
              have HOO2 := hide (HO.out.kept hg12)
              clear ho1 hg1 HV HO HRX hix hcp hsx
              go_wp2_with fail
              refine (RBody_any w2 u1 x HO1.out.row).mono ?_
              rintro e w3 ⟨u2, rfl, ho2, hb3⟩
              rw [HBS.out] at ho2 ⊢
              have hB3 : Below w.heap.size w w3 := hB2.trans (hb3.mono hB2.size)
              have HO13 := hide (HO1.out.kept hb3)
              have HV3 := hide (HV2.out.kept hb3)
              have HOO3 := hide (HOO2.out.kept hb3)
              have ht1 := ho2.row.text
              have ht2 := ((HRY.out.below hg12).below hb3).text
              have ht1d := (ho2.row.below (Below.refl _ _).drew).text
              have ht2d := (((HRY.out.below hg12).below hb3).below (Below.refl _ _).drew).text
              have HRR3 := hide ((HR'.out.below hg12).below hb3)
              have HO2 := hide ho2
              clear ho2 hb3 hg12 HO1 HV2 HOO2 HR' HRY
              go_wp2_with fail
              go_region
              all_goals
                have hD : Below w3.heap.size w3 w3.drew := (Below.refl _ _).drew
                have HV4 := hide (HV3.out.kept hD)
                have HO4 := hide (HOO3.out.kept hD)
                have HU4 := hide (HO13.out.kept hD)
                have hB4 : Below w.heap.size w w3.drew := hB3.drew
                obtain ⟨ua, uc, rfl⟩ := HU4.out.row.of_len
                generalize w3.drew = w4 at *
                have hB5 : Below w.heap.size w (w4.alloc (.cells #[.slice ua x.length uc] 38)) := hB4.alloc hB4.size _
                have hul2 : us.length + 1 ≤ 1000000000000 := by rw [HO4.out.1]; have := HN.out; omega
                clear ht1 ht2 ht1d ht2d HV3 HOO3 HO13 hB3 hD HO2 HRR3
                go_wp2_with (at_builtin; refine wpList_append_vals rfl _ _ rfl w.heap.size _ _ us [.slice ua x.length uc] rfl (HV4.out.alloc _) rfl (vals_new1 w4 _) (by intro u hu; simp at hu; exact ⟨_, _, _, hu⟩) hul2 hB5.size ?_)
                intro v5 w5 hv5 hg5
                have hB6 : Below w.heap.size w w5 := (HV4.out.alloc _).grown_below hB5 hg5 (Nat.le_refl _) hB5.size
                have HO5 := hide (((HO4.out.kept ((Below.refl _ _).alloc (Nat.le_refl _) (.cells #[.slice ua x.length uc] 38))).snoc (HU4.out.kept ((Below.refl _ _).alloc (Nat.le_refl _) (.cells #[.slice ua x.length uc] 38)))).besides (HV4.out.alloc _) hg5)
                have HV5 := hide hv5
                clear hv5 hg5 HO4 HV4 hB5 hB4
                go_wp2
                exact ⟨⟨us ++ [.slice ua x.length uc], bss ++ [x], n + (x.length + 7), by rw [HXL.out]; go_num, HV5.out, HO5.out, HS.out.more HF.out, hB6⟩, by simp [intOf]; omega⟩
            · rw [if_neg he] at HF
              have hne2 : ((strOfNums (bodyB x)).toList == (strOfNums y).toList) = false := by
                have : ¬ (strOfNums (bodyB x)).toList = (strOfNums y).toList := by
                  intro h
                  rw [Lib.strOfNums_toList, Lib.strOfNums_toList] at h
                  exact he (strOfNums_inj hxbys hybys (by unfold strOfNums; congr 1; exact congrArg List.toArray h))
                simpa using this
              go_wp2_with fail
              refine Calls.mono HG.out ?_
              rintro e w1 ⟨rfl, rfl⟩
              go_wp2_with (at_builtin; refine wpList_append_row rfl _ _ rfl w.heap.size _ _ [] x rfl (Own.nil _ _) rfl HRX.out (by rw [HXL.out]; simp; omega) hb.size ?_)
              intro u1 w2 ho1 hg1
              have hB2 : Below w.heap.size w w2 := (Own.nil w.heap.size w1).grown_below hb hg1 (Nat.le_refl _) hb.size
              have hg12 : Below w1.heap.size w1 w2 := grown_below hg1
              try rw [List.nil_append] at ho1
              have HO1 := hide ho1
              have HV2 := hide (HV.out.kept hg12)
              have HOO2 := hide (HO.out.kept hg12)
              clear ho1 hg1 HV HO HRX hix hcp hsx
              go_wp2_with fail
              refine (RBody_any w2 u1 x HO1.out.row).mono ?_
              rintro e w3 ⟨u2, rfl, ho2, hb3⟩
              rw [HBS.out] at ho2 ⊢
              have hB3 : Below w.heap.size w w3 := hB2.trans (hb3.mono hB2.size)
              have HO13 := hide (HO1.out.kept hb3)
              have HV3 := hide (HV2.out.kept hb3)
              have HOO3 := hide (HOO2.out.kept hb3)
              have ht1 := ho2.row.text
              have ht2 := ((HRY.out.below hg12).below hb3).text
              have ht1d := (ho2.row.below (Below.refl _ _).drew).text
              have ht2d := (((HRY.out.below hg12).below hb3).below (Below.refl _ _).drew).text
              have HRR3 := hide ((HR'.out.below hg12).below hb3)
              have HO2 := hide ho2
              clear ho2 hb3 hg12 HO1 HV2 HOO2 HR' HRY
              go_wp2_with fail
              go_region
              all_goals
                have hD : Below w3.heap.size w3 w3.drew := (Below.refl _ _).drew
                have HV4 := hide (HV3.out.kept hD)
                have HO4 := hide (HOO3.out.kept hD)
                have HR4 := hide (HRR3.out.below hD)
                have hB4 : Below w.heap.size w w3.drew := hB3.drew
                generalize w3.drew = w4 at *
                clear ht1 ht2 ht1d ht2d HV3 HOO3 HO13 hB3 hD HO2 HRR3
                go_wp2_with fail
                refine (Rerased_any _ v' _ HR4.out).mono ?_
                rintro e w5 ⟨rfl, rfl⟩
                go_wp2
                go_ret3
                exact ⟨_, us, bss, n, rfl, HV4.out, HO4.out, ⟨HS.out, HF.out⟩, hB4⟩
          · have HF := hide (firstS_no HNN.out (.inr (.inr hf)))
            generalize (xs.drop n).getD (N + 6) 0 = f at *
            have hne : (f != 0) = true := by simpa using hf
            go_wp2_with fail
            refine Calls.mono HG.out ?_
            rintro e w1 ⟨rfl, rfl⟩
            go_wp2_with fail
            refine (Rerased_any _ v' _ HR'.out).mono ?_
            rintro e w2 ⟨rfl, rfl⟩
            go_wp2
            go_ret3
            exact ⟨_, us, bss, n, rfl, HV.out, HO.out, ⟨HS.out, HF.out⟩, hb⟩
end Go.Proofs.Ytgkgbbffgcmekaa

/-
  A geometry that comes in, opened.
-/
namespace Go.Proofs.Ytgkgbbffgcmekaa
open Go.RowKit
set_option linter.unusedVariables false
def GeoOk (a b c d e : Int) : Prop := (Lit.int .i64 a).wf = true ∧ (Lit.int .i64 b).wf = true ∧ (Lit.int .i64 c).wf = true ∧ (Lit.int .i64 d).wf = true ∧ (Lit.int .i64 e).wf = true
theorem opens_geo (w : World) : Opens Try.prog w 23 (fun cs => ∃ a b c d e, cs = (gcells a b c d e).toList ∧ GeoOk a b c d e) := by
  have hI : ∀ w : World, Opens Try.prog w 3 _ := fun w => opens_int Try.underlying3
  intro H enc fuel cs x h
  obtain ⟨xs, n, _, rfl, hl, hlen, hf⟩ := DataW.trod_struct Try.underlying23 h
  have c5 : Try.prog.cellsOf 23 = 5 := by kernel_rfl
  have ci : Try.prog.cellsOf 3 = 1 := by kernel_rfl
  rw [c5] at hl
  match xs, hlen, cs, hl with
  | [y0, y1, y2, y3, y4], _, [v0, v1, v2, v3, v4], _ =>
    have g0 := hf 0 _ rfl
    have g1 := hf 1 _ rfl
    have g2 := hf 2 _ rfl
    have g3 := hf 3 _ rfl
    have g4 := hf 4 _ rfl
    simp [ci] at g0 g1 g2 g3 g4
    obtain ⟨a0, h0, p0⟩ := hI w _ _ _ _ _ g0
    obtain ⟨a1, h1, p1⟩ := hI w _ _ _ _ _ g1
    obtain ⟨a2, h2, p2⟩ := hI w _ _ _ _ _ g2
    obtain ⟨a3, h3, p3⟩ := hI w _ _ _ _ _ g3
    obtain ⟨a4, h4, p4⟩ := hI w _ _ _ _ _ g4
    simp at h0 h1 h2 h3 h4
    subst h0 h1 h2 h3 h4
    exact ⟨a0, a1, a2, a3, a4, rfl, p0, p1, p2, p3, p4⟩
end Go.Proofs.Ytgkgbbffgcmekaa
