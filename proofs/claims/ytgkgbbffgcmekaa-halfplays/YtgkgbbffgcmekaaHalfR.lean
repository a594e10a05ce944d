/-
  Plain matter of half a chip: the bytes of a half, behind what is appended.
-/
import Derived.Test.YtgkgbbffgcmekaaHalfQ
namespace Go.Proofs.Ytgkgbbffgcmekaa
open Go.RowKit
set_option linter.unusedVariables false

def part (bs : List Int) (H Z : Nat) : List Int := (bs.drop (H * Z)).take Z
section
variable {bs : List Int} {H Z : Nat}
theorem part_length (h : H * Z + Z ≤ bs.length) : (part bs H Z).length = Z := by simp [part]; omega
theorem part_at {i : Nat} (hi : i < Z) : (part bs H Z).getD i 0 = bs.getD (H * Z + i) 0 := by
  simp [part, List.getD, hi]
theorem part_bys (h : Bys bs) : Bys (part bs H Z) := (h.drop _).take _
theorem half_two {H : Nat} (h : H < 2) : H = 0 ∨ H = 1 := by omega
theorem part_over (x : List Int) (q : Nat) (hq : q + x.length ≤ Z) (hl : H * Z + Z ≤ bs.length) : part (over bs (H * Z + q) x) H Z = over (part bs H Z) q x := by
  refine list_ext ?_ (fun j hj => ?_)
  · rw [part_length (by rw [over_length]; exact hl), over_length, part_length hl]
  · rw [part_length (by rw [over_length]; exact hl)] at hj
    rw [part_at hj, over_at _ _ _ _ (by omega), over_at _ _ _ _ (by rw [part_length hl]; omega), part_at hj]
    by_cases h : q ≤ j ∧ j < q + x.length
    · rw [if_pos (by omega), if_pos h]
      congr 1
      omega
    · rw [if_neg (by omega), if_neg h]
theorem part_over_ne {H' : Nat} (x : List Int) (q : Nat) (hH : H < 2) (hH' : H' < 2) (hne : H ≠ H') (hq : q + x.length ≤ Z) (hl : 2 * Z ≤ bs.length) : part (over bs (H * Z + q) x) H' Z = part bs H' Z := by
  have hb : H * Z + Z ≤ bs.length ∧ H' * Z + Z ≤ bs.length := by rcases half_two hH with rfl | rfl <;> rcases half_two hH' with rfl | rfl <;> omega
  refine list_ext ?_ (fun j hj => ?_)
  · rw [part_length (by rw [over_length]; exact hb.2), part_length hb.2]
  · rw [part_length (by rw [over_length]; exact hb.2)] at hj
    rw [part_at hj, part_at hj, over_at _ _ _ _ (by omega), if_neg]
    rcases half_two hH with rfl | rfl <;> rcases half_two hH' with rfl | rfl <;> omega
theorem part_set (q : Nat) (y : Int) (hq : q < Z) (hl : H * Z + Z ≤ bs.length) : part (bs.set (H * Z + q) y) H Z = (part bs H Z).set q y := by
  refine list_ext ?_ (fun j hj => ?_)
  · rw [part_length (by rw [List.length_set]; exact hl), List.length_set, part_length hl]
  · rw [part_length (by rw [List.length_set]; exact hl)] at hj
    rw [part_at hj, getD_set, getD_set, part_at hj, part_length hl]
    by_cases h : q = j
    · rw [if_pos (by omega), if_pos (by omega)]
    · rw [if_neg (by omega), if_neg (by omega)]
theorem part_set_ne {H' : Nat} (q : Nat) (y : Int) (hH : H < 2) (hH' : H' < 2) (hne : H ≠ H') (hq : q < Z) (hl : 2 * Z ≤ bs.length) : part (bs.set (H * Z + q) y) H' Z = part bs H' Z := by
  have hb : H' * Z + Z ≤ bs.length := by rcases half_two hH' with rfl | rfl <;> omega
  refine list_ext ?_ (fun j hj => ?_)
  · rw [part_length (by rw [List.length_set]; exact hb), part_length hb]
  · rw [part_length (by rw [List.length_set]; exact hb)] at hj
    rw [part_at hj, part_at hj, getD_set, if_neg]
    rcases half_two hH with rfl | rfl <;> rcases half_two hH' with rfl | rfl <;> omega
theorem part_new (n : Nat) (hH : H < 2) (hl : 2 * Z ≤ n) : part (List.replicate n 255) H Z = List.replicate Z 255 := by
  have : H * Z + Z ≤ n := by rcases half_two hH with rfl | rfl <;> omega
  simp [part]
  omega
end
theorem isHalf_nat {H : Nat} (h : H < 2) : isHalf (H : Int) = true := by rcases half_two h with rfl | rfl <;> rfl
theorem part_fits {N : NSt} {n H : Nat} (ok : N.Ok n) (hH : H < 2) : H * halfZ N + halfZ N ≤ N.bs.length := by
  have := halfZ_big ok
  rw [ok.len]
  rcases half_two hH with rfl | rfl <;> omega
theorem readH_part {N : NSt} {n H : Nat} (ok : N.Ok n) (hH : H < 2) : readH N (H : Int) = (0, part N.bs H (halfZ N)) := by
  have h := part_fits ok hH
  unfold readH readS
  rw [isHalf_nat hH, show (H : Int) * (halfZ N : Int) = ((H * halfZ N : Nat) : Int) by simp]
  have h1 : hasS N.bs.length ((H * halfZ N : Nat) : Int) (halfZ N : Int) = true := by simp only [hasS, decide_eq_true_eq]; omega
  rw [h1, Int.toNat_natCast, Int.toNat_natCast]
  rfl
theorem readH_bytes {N : NSt} {n H : Nat} {bs : List Int} (ok : N.Ok n) (hl : bs.length = N.bs.length) (hb : Bys bs) (hH : H < 2) : readH { N with bs := bs } (H : Int) = (0, part bs H (halfZ N)) := readH_part (ok.bytes hl hb) hH
theorem bytes_same {N : NSt} (bs : List Int) : halfZ { N with bs := bs } = halfZ N := rfl

section
variable {S : PSt} {N : NSt} {H q n : Nat} {b : List Int}
theorem appH_in (hH : H < 2) (hb : b.length ≤ 65000) (hq : q + b.length + 7 ≤ halfZ N) : appH S N H q b = progR S N.bs ((H * halfZ N + q : Nat) : Int) (bodyB b) := by
  unfold appH
  rw [if_neg (by rw [isHalf_nat hH]; simp), if_neg (by omega), if_neg (by omega)]
  simp
/-- Power that is on, and tears nothing. -/
theorem app_free (ok : N.Ok n) (hH : H < 2) (hb : b.length ≤ 65000) (hq : q + b.length + 7 ≤ halfZ N) (h1 : S.off = false) (h2 : S.armed = false) (hbl : ∀ j, j < b.length + 7 → (part N.bs H (halfZ N)).getD (q + j) 0 = 255) :
    appH S N H q b = (0, { S with steps := S.steps + (b.length + 7) }, over N.bs (H * halfZ N + q) (recB b)) := by
  have hf := part_fits ok hH
  rw [appH_in hH hb hq, progR_free S N.bs (H * halfZ N + q) (bodyB b) h1 h2 (by rw [bodyB_length]; omega) (fun j hj => by
    rw [bodyB_length] at hj
    have := hbl j (by omega)
    rwa [part_at (by omega), ← Nat.add_assoc] at this), bodyB_length]
  simp [recB]
  omega
/-- Power that will be torn. -/
theorem app_torn (ok : N.Ok n) (hH : H < 2) (hb : b.length ≤ 65000) (hq : q + b.length + 7 ≤ halfZ N) {c : Nat} (h1 : S.off = false) (h2 : S.armed = true) (h3 : S.left = c) (hm : 0 ≤ S.mask ∧ S.mask < 256) (hbl : ∀ j, j < b.length + 7 → (part N.bs H (halfZ N)).getD (q + j) 0 = 255) :
    appH S N H q b = if b.length + 7 ≤ c then (0, { S with left := (c : Int) - (b.length + 7), steps := S.steps + (b.length + 7) }, over N.bs (H * halfZ N + q) (recB b))
      else (6, { S with off := true, left := 0, steps := S.steps + c }, (over N.bs (H * halfZ N + q) ((recB b).take c)).set (H * halfZ N + q + c) (bits .or .u8 ((recB b).getD c 0) S.mask)) := by
  have hf := part_fits ok hH
  rw [appH_in hH hb hq, progR_torn S N.bs (H * halfZ N + q) (bodyB b) c h1 h2 h3 hm (by rw [bodyB_length]; omega) (fun j hj => by
    rw [bodyB_length] at hj
    have := hbl j (by omega)
    rwa [part_at (by omega), ← Nat.add_assoc] at this), bodyB_length]
  by_cases hc : b.length + 7 ≤ c
  · rw [if_pos (by omega), if_pos hc]
    simp [recB]
    omega
  · rw [if_neg (by omega), if_neg hc]
    rfl
end
end Go.Proofs.Ytgkgbbffgcmekaa
