/-
  Plain matter of garretlaw08.HalfWipes: what a wipe leaves, whole or torn.
-/
import Derived.Test.YtgkgbbffgcmekaaAwake08
namespace Go.Proofs.Ytgkgbbffgcmekaa
open Go.RowKit
set_option linter.unusedVariables false
set_option maxRecDepth 100000

theorem step_left (S : PSt) (c : Nat) (h1 : S.off = false) (h2 : S.armed = true) (h3 : S.left = c) :
    S.step = if c = 0 then (false, true, { S with off := true }) else (true, false, { S with left := (c : Int) - 1, steps := S.steps + 1 }) := by
  obtain ⟨off, armed, left, mask, steps, fails⟩ := S
  simp only at h1 h2 h3
  subst h1 h2 h3
  cases c with
  | zero => rfl
  | succ c =>
    have : (((c + 1 : Nat) : Int) == 0) = false := by rw [beq_eq_false_iff_ne]; omega
    unfold PSt.step
    simp only [Bool.false_eq_true, if_false, this, Bool.and_false, if_true]
    rw [if_neg (by omega)]
theorem step_free (S : PSt) (h1 : S.off = false) (h2 : S.armed = false) : S.step = (true, false, { S with steps := S.steps + 1 }) := by
  obtain ⟨off, armed, left, mask, steps, fails⟩ := S
  simp only at h1 h2
  subst h1 h2
  rfl
theorem eraseA_in (S : PSt) (N : NSt) (s : Nat) (hs : s < N.A) : eraseA S N s = if S.step.1 then (0, S.step.2.2, { N with bs := fill N.bs (s * N.B) 255 N.B, er := N.er.set s (N.er.getD s 0 + 1) })
    else if S.step.2.1 then (6, S.step.2.2, { N with bs := fill N.bs (s * N.B) S.step.2.2.mask N.B }) else (6, S.step.2.2, N) := by
  unfold eraseA
  rw [if_pos (by omega), Int.toNat_natCast]

/-- What is left of a wipe of the first k sectors of half h (each has n). -/
structure Wiped (N N' : NSt) (h n k c : Nat) : Prop where
  geo : SameG N N'
  bl : N'.bs.length = N.bs.length
  el : N'.er.length = N.er.length
  er : ∀ i, N'.er.getD i 0 = N.er.getD i 0 + if h * n + (k - c) ≤ i ∧ i < h * n + k then 1 else 0
  out : ∀ j, ¬ (h * n * N.B ≤ j ∧ j < (h * n + k) * N.B) → N'.bs.getD j 0 = N.bs.getD j 0
  inn : k ≤ c → ∀ j, h * n * N.B ≤ j → j < (h * n + k) * N.B → N'.bs.getD j 0 = 255

theorem er_at (er : List Int) (s i : Nat) (y : Int) (hs : s < er.length) : (er.set s y).getD i 0 = if s = i then y else er.getD i 0 := by
  rw [getD_set]
  by_cases h : s = i
  · rw [if_pos ⟨h, hs⟩, if_pos h]
  · rw [if_neg (by omega), if_neg h]

theorem wipeF_torn (h n k : Nat) {S : PSt} {N : NSt} {m : Nat} (ok : N.Ok m) (hk : h * n + k ≤ N.A) (c : Nat) (h1 : S.off = false) (h2 : S.armed = true) (h3 : S.left = c) :
    ∃ S' N', wipeF h n k S N = ((if k ≤ c then 0 else 6), S', N') ∧ Wiped N N' h n k c := by
  induction k generalizing S N m c with
  | zero => exact ⟨S, N, by rw [if_pos (by omega)]; rfl, SameG.refl N, rfl, rfl, fun i => by rw [if_neg (by omega)]; omega, fun j _ => rfl, fun _ j a b => by rw [Nat.add_zero] at b; omega⟩
  | succ k ih =>
    have he := eraseA_in S N (h * n + k) (by omega)
    rw [step_left S c h1 h2 h3] at he
    have hse := ok.sector (s := h * n + k) (by omega)
    have hB := ok.B0
    have hmul : (h * n + (k + 1)) * N.B = (h * n + k) * N.B + N.B := by rw [← Nat.add_assoc, Nat.add_mul]; omega
    have hmul2 : h * n * N.B ≤ (h * n + k) * N.B := Nat.mul_le_mul_right _ (by omega)
    rw [wipeF]
    by_cases hc : c = 0
    · subst hc
      simp only [if_true, if_false, Bool.false_eq_true] at he
      rw [he]
      simp only [if_neg (show ¬ ((6 : Int) = 0) by decide)]
      rw [if_neg (by omega)]
      refine ⟨_, _, rfl, ⟨rfl, rfl, rfl, rfl, rfl⟩, by simp [fill_length], rfl, fun i => ?_, fun j hj => ?_, fun hh => by omega⟩
      · rw [if_neg (by omega)]; simp
      · show (fill N.bs ((h * n + k) * N.B) _ N.B).getD j 0 = _
        rw [fill_at _ _ _ _ _ (by rw [ok.len]; omega), if_neg (by omega)]
    · rw [if_neg hc] at he
      simp only [if_true] at he
      rw [he]
      simp only [if_true]
      have h1S := eraseA_ok (s := ((h * n + k : Nat) : Int)) (S := PSt.zero) (N := N) (n := m) (PSt.zero_ok m) ok
      have okN : NSt.Ok { N with bs := fill N.bs ((h * n + k) * N.B) 255 N.B, er := N.er.set (h * n + k) (N.er.getD (h * n + k) 0 + 1) } (m + 1) := by
        have e2 := eraseA_in PSt.zero N (h * n + k) (by omega)
        rw [step_free PSt.zero rfl rfl] at e2
        simp only [if_true] at e2
        rw [e2] at h1S
        exact h1S.2
      obtain ⟨S', N', hw, hW⟩ := ih (S := { S with left := (c : Int) - 1, steps := S.steps + 1 }) (N := { N with bs := fill N.bs ((h * n + k) * N.B) 255 N.B, er := N.er.set (h * n + k) (N.er.getD (h * n + k) 0 + 1) }) okN (by simp only; omega) (c - 1) h1 h2 (by simp only; omega)
      obtain ⟨w1, w2, w3, w4, w5, w6⟩ := hW
      simp only at w2 w3 w4 w5 w6
      refine ⟨S', N', ?_, ⟨w1.A, w1.B, w1.c, w1.d, w1.e⟩, by rw [w2, fill_length], by rw [w3, List.length_set], fun i => ?_, fun j hj => ?_, fun hh j a b => ?_⟩
      · rw [hw]
        by_cases hkc : k + 1 ≤ c
        · rw [if_pos (by omega), if_pos hkc]
        · rw [if_neg (by omega), if_neg hkc]
      · rw [w4, er_at _ _ _ _ (by rw [ok.el]; omega)]
        by_cases hi : h * n + k = i
        · subst hi
          rw [if_pos rfl, if_neg (by omega), if_pos (by omega)]
          omega
        · rw [if_neg hi]
          congr 1
          by_cases hq : h * n + (k - (c - 1)) ≤ i ∧ i < h * n + k
          · rw [if_pos hq, if_pos (by omega)]
          · rw [if_neg hq, if_neg (by omega)]
      · rw [w5 j (by omega), fill_at _ _ _ _ _ (by rw [ok.len]; omega), if_neg (by omega)]
      · by_cases hq : j < (h * n + k) * N.B
        · exact w6 (by omega) j a hq
        · rw [w5 j (by omega), fill_at _ _ _ _ _ (by rw [ok.len]; omega), if_pos (by omega)]
          have e : N.bs.getD j 0 = N.bs.getD j 0 := rfl
          exact or_255 (ok.bys.at j)
theorem wipeF_free (h n k : Nat) {S : PSt} {N : NSt} {m : Nat} (ok : N.Ok m) (hk : h * n + k ≤ N.A) (h1 : S.off = false) (h2 : S.armed = false) :
    ∃ S' N', wipeF h n k S N = (0, S', N') ∧ N'.bs.length = N.bs.length ∧ ∀ j, h * n * N.B ≤ j → j < (h * n + k) * N.B → N'.bs.getD j 0 = 255 := by
  have key : ∀ (k : Nat) (S : PSt) (N : NSt) (m : Nat), N.Ok m → h * n + k ≤ N.A → S.off = false → S.armed = false →
      ∃ S' N', wipeF h n k S N = (0, S', N') ∧ N'.bs.length = N.bs.length ∧ (∀ j, h * n * N.B ≤ j → j < (h * n + k) * N.B → N'.bs.getD j 0 = 255) ∧ (∀ j, ¬ (h * n * N.B ≤ j ∧ j < (h * n + k) * N.B) → N'.bs.getD j 0 = N.bs.getD j 0) := by
    intro k
    induction k with
    | zero => intro S N m ok hk h1 h2; exact ⟨S, N, rfl, rfl, fun j a b => by rw [Nat.add_zero] at b; omega, fun j _ => rfl⟩
    | succ k ih =>
      intro S N m ok hk h1 h2
      have he := eraseA_in S N (h * n + k) (by omega)
      rw [step_free S h1 h2] at he
      simp only [if_true] at he
      have hse := ok.sector (s := h * n + k) (by omega)
      have hB := ok.B0
      have hmul : (h * n + (k + 1)) * N.B = (h * n + k) * N.B + N.B := by rw [← Nat.add_assoc, Nat.add_mul]; omega
      have hmul2 : h * n * N.B ≤ (h * n + k) * N.B := Nat.mul_le_mul_right _ (by omega)
      have okN : NSt.Ok { N with bs := fill N.bs ((h * n + k) * N.B) 255 N.B, er := N.er.set (h * n + k) (N.er.getD (h * n + k) 0 + 1) } (m + 1) := by
        have h1S := eraseA_ok (s := ((h * n + k : Nat) : Int)) (S := PSt.zero) (N := N) (n := m) (PSt.zero_ok m) ok
        have e2 := eraseA_in PSt.zero N (h * n + k) (by omega)
        rw [step_free PSt.zero rfl rfl] at e2
        simp only [if_true] at e2
        rw [e2] at h1S
        exact h1S.2
      rw [wipeF, he]
      simp only [if_true]
      obtain ⟨S', N', hw, w2, w6, w5⟩ := ih { S with steps := S.steps + 1 } { N with bs := fill N.bs ((h * n + k) * N.B) 255 N.B, er := N.er.set (h * n + k) (N.er.getD (h * n + k) 0 + 1) } (m + 1) okN (by simp only; omega) h1 h2
      simp only at w2 w5 w6
      refine ⟨S', N', hw, by rw [w2, fill_length], fun j a b => ?_, fun j hj => ?_⟩
      · by_cases hq : j < (h * n + k) * N.B
        · exact w6 j a hq
        · rw [w5 j (by omega), fill_at _ _ _ _ _ (by rw [ok.len]; omega), if_pos (by omega)]
          exact or_255 (ok.bys.at j)
      · rw [w5 j (by omega), fill_at _ _ _ _ _ (by rw [ok.len]; omega), if_neg (by omega)]
  obtain ⟨S', N', a, b, c, d⟩ := key k S N m ok hk h1 h2
  exact ⟨S', N', a, b, c⟩

theorem wipes_plain {N : NSt} (ok : N.Ok 0) {M : Nat} (hM : N.bs = List.replicate M 255) (hM2 : 2 * halfZ N ≤ M) (hE : N.er = List.replicate N.A 0) (a b : List Int) (ha : a.length ≤ 100) (hb : b.length ≤ 100) (hA : Bys a) (hB : Bys b) {H : Nat} (hH : H < 2) (cut : Nat) (mask : Int) (hm : (Lit.int .u8 mask).wf = true) (hcut : cut ≤ 100) :
    ∃ (S1 : PSt) (bs1 : List Int) (S2 : PSt) (bs2 : List Int) (x : Int) (S3 : PSt) (N3 : NSt) (S4 : PSt) (N4 : NSt), appH PSt.zero N 0 0 a = (0, S1, bs1) ∧ appH S1 { N with bs := bs1 } 1 0 b = (0, S2, bs2) ∧ wipeH (S2.cut cut mask) { N with bs := bs2 } H = (x, S3, N3) ∧ wipeH S3.on N3 H = (0, S4, N4) ∧
      ((halfN N ≤ cut ∧ x = 0) ∨ (cut < halfN N ∧ x = 6)) ∧ (∀ i, i < halfN N → N3.er.getD (H * halfN N + i) 0 = if halfN N - cut ≤ i then 1 else 0) ∧ (∀ i, i < halfN N → N3.er.getD ((1 - H) * halfN N + i) 0 = 0) ∧
      part N3.bs (1 - H) (halfZ N) = part bs2 (1 - H) (halfZ N) ∧ part N4.bs H (halfZ N) = List.replicate (halfZ N) 255 ∧ SameG N N3 ∧ SameG N N4 ∧ NSt.Ok { N with bs := bs1 } 300 ∧ S1.Ok 300 ∧ NSt.Ok { N with bs := bs2 } 600 ∧ S2.Ok 600 ∧ N3.Ok 700 ∧ S3.Ok 700 ∧ N4.Ok 800 := by
  have hz := halfZ_big ok
  have hl0 : N.bs.length = M := by rw [hM]; simp
  have e0 : ∀ H, H < 2 → part N.bs H (halfZ N) = List.replicate (halfZ N) 255 := fun H hH => by rw [hM, part_new _ hH hM2]
  have h1 := app_free (S := PSt.zero) (N := N) (H := 0) (q := 0) (b := a) ok (by omega) (by omega) (by omega) rfl rfl (fun j hj => by
    rw [e0 0 (by omega)]
    exact getD_rep7 (by omega))
  obtain ⟨bs1, hbs1⟩ : ∃ l, over N.bs (0 * halfZ N + 0) (recB a) = l := ⟨_, rfl⟩
  have l1 : bs1.length = M := by rw [← hbs1, over_length, hl0]
  have b1 : Bys bs1 := by rw [← hbs1]; exact over_bys ok.bys (recB_bys hA) _
  have ra := recB_length a
  have rb := recB_length b
  have p1 : part bs1 1 (halfZ N) = List.replicate (halfZ N) 255 := by
    rw [← hbs1, part_over_ne (bs := N.bs) (H := 0) (recB a) 0 (by omega) (by omega) (by omega) (by omega) (by omega), e0 1 (by omega)]
  rw [hbs1] at h1
  have ok1 : NSt.Ok { N with bs := bs1 } 0 := ok.bytes (l1.trans hl0.symm) b1
  have hz1 : halfZ { N with bs := bs1 } = halfZ N := rfl
  obtain ⟨S1, hS1⟩ : ∃ s : PSt, ({ PSt.zero with steps := PSt.zero.steps + (a.length + 7) } : PSt) = s := ⟨_, rfl⟩
  rw [hS1] at h1
  have s1 : S1.off = false := by rw [← hS1]; rfl
  have s2 : S1.armed = false := by rw [← hS1]; rfl
  have h2 := app_free (S := S1) (N := { N with bs := bs1 }) (H := 1) (q := 0) (b := b) ok1 (by omega) (by omega) (by rw [hz1]; omega) s1 s2 (fun j hj => by
    rw [hz1, p1]
    exact getD_rep7 (by omega))
  rw [hz1] at h2
  obtain ⟨bs2, hbs2⟩ : ∃ l, over bs1 (1 * halfZ N + 0) (recB b) = l := ⟨_, rfl⟩
  simp only [hbs2] at h2
  have l2 : bs2.length = M := by rw [← hbs2, over_length, l1]
  have b2 : Bys bs2 := by rw [← hbs2]; exact over_bys b1 (recB_bys hB) _
  obtain ⟨S2, hS2⟩ : ∃ s : PSt, ({ S1 with steps := S1.steps + (b.length + 7) } : PSt) = s := ⟨_, rfl⟩
  rw [hS2] at h2
  have t1 : S2.off = false := by rw [← hS2]; exact s1
  have ok2 : NSt.Ok { N with bs := bs2 } 0 := ok.bytes (l2.trans hl0.symm) b2
  have okS1 : S1.Ok 300 := by
    have := (appH_ok (h := 0) (q := 0) (b := a) (PSt.zero_ok 0) ok hA).1
    have e : (appH PSt.zero N 0 0 a).2.1 = S1 := by
      have := h1
      simp only [Int.ofNat_zero] at this
      rw [show appH PSt.zero N 0 0 a = (0, S1, bs1) from this]
    rw [e] at this
    exact this.more (by omega)
  have okS2 : S2.Ok 600 := by
    have := (appH_ok (h := 1) (q := 0) (b := b) okS1 (ok1.more (show 0 ≤ 300 by omega)) hB).1
    have e : (appH S1 { N with bs := bs1 } 1 0 b).2.1 = S2 := by
      rw [show appH S1 { N with bs := bs1 } 1 0 b = (0, S2, bs2) from h2]
    rw [e] at this
    exact this.more (by omega)
  have hn2 : halfN { N with bs := bs2 } = halfN N := rfl
  have hAe : H * halfN N + halfN N ≤ N.A := by
    unfold halfN
    rcases half_two hH with rfl | rfl <;> omega
  obtain ⟨S3, N3, hw, hW⟩ := wipeF_torn H (halfN N) (halfN N) (S := S2.cut cut mask) (N := { N with bs := bs2 }) ok2 hAe cut t1 (by simp [PSt.cut]) rfl
  obtain ⟨w1, w2, w3, w4, w5, _⟩ := hW
  simp only at w2 w3 w4 w5
  have hwz : wipeH (S2.cut cut mask) { N with bs := bs2 } H = ((if halfN N ≤ cut then 0 else 6), S3, N3) := by
    unfold wipeH
    rw [isHalf_nat hH, if_pos rfl, Int.toNat_natCast, hn2, hw]
  have okS2c : (S2.cut cut mask).Ok 600 := okS2.cut (wf_i64 (by omega) (by omega)) hm
  have ok3 := wipeH_ok (H : Int) okS2c (ok2.more (show 0 ≤ 600 by omega))
  rw [hwz] at ok3
  have g3 : SameG N N3 := ⟨w1.A, w1.B, w1.c, w1.d, w1.e⟩
  have hn3 : halfN N3 = halfN N := by unfold halfN; rw [g3.A]
  obtain ⟨S4, N4, hv, v2, v6⟩ := wipeF_free H (halfN N) (halfN N) (S := S3.on) (N := N3) ok3.2 (by rw [g3.A]; exact hAe) rfl rfl
  have hvz : wipeH S3.on N3 H = (0, S4, N4) := by
    unfold wipeH
    rw [isHalf_nat hH, if_pos rfl, Int.toNat_natCast, hn3, hv]
  have ok4 := wipeH_ok (H : Int) ok3.1.on ok3.2
  rw [hvz] at ok4
  have g4 : SameG N N4 := by
    have := wipeH_geo S3.on N3 (H : Int)
    rw [hvz] at this
    exact g3.trans this
  have hZn : halfZ N = halfN N * N.B := rfl
  have hHZ : H * halfN N * N.B = H * halfZ N := by rw [hZn, Nat.mul_assoc]
  have hHZ2 : (H * halfN N + halfN N) * N.B = H * halfZ N + halfZ N := by rw [Nat.add_mul, hHZ]; rfl
  have er0 : ∀ i, N.er.getD i 0 = 0 := fun i => by
    rw [hE]
    simp only [List.getD, List.getElem?_replicate]
    split <;> rfl
  refine ⟨S1, bs1, S2, bs2, _, S3, N3, S4, N4, h1, h2, hwz, hvz, ?_, fun i hi => ?_, fun i hi => ?_, ?_, ?_, g3, g4, ok1.more (by omega), okS1, ok2.more (by omega), okS2, ok3.2.more (by omega), ok3.1.more (by omega), ok4.2.more (by omega)⟩
  · by_cases h : halfN N ≤ cut
    · exact .inl ⟨h, if_pos h⟩
    · exact .inr ⟨by omega, if_neg h⟩
  · rw [w4, er0]
    by_cases h : halfN N - cut ≤ i
    · rw [if_pos (by omega), if_pos h]; rfl
    · rw [if_neg (by omega), if_neg h]; rfl
  · rw [w4, er0, if_neg]
    · rfl
    · rcases half_two hH with rfl | rfl <;> omega
  · have hf := part_fits (N := N3) (H := 1 - H) ok3.2 (by omega)
    have hz3 : halfZ N3 = halfZ N := by unfold halfZ; rw [g3.A, g3.B]
    rw [hz3] at hf
    refine list_ext ?_ (fun j hj => ?_)
    · rw [part_length hf, part_length (by omega)]
    · rw [part_length hf] at hj
      rw [part_at hj, part_at hj]
      refine w5 _ ?_
      rw [hHZ, hHZ2]
      rcases half_two hH with rfl | rfl <;> omega
  · have hf := part_fits (N := N4) (H := H) ok4.2 hH
    have hz4 : halfZ N4 = halfZ N := by unfold halfZ; rw [g4.A, g4.B]
    rw [hz4] at hf
    refine list_ext ?_ (fun j hj => ?_)
    · rw [part_length hf, List.length_replicate]
    · rw [part_length hf] at hj
      rw [part_at hj, getD_rep7 hj]
      refine v6 _ ?_ ?_
      · rw [g3.B, hHZ]; omega
      · rw [g3.B, hHZ2]; omega
end Go.Proofs.Ytgkgbbffgcmekaa
