/-
  Plain matter of a chip whose pages are programmed once.
-/
import Derived.Test.YthiehpofmlbehaaPMap5
namespace Go.Proofs.Ythiehpofmlbehaa
open Go.RowKit
set_option linter.unusedVariables false
set_option maxRecDepth 100000

theorem list_ext5 {xs ys : List Int} (hl : xs.length = ys.length) (h : ∀ j, j < xs.length → xs.getD j 0 = ys.getD j 0) : xs = ys := by
  apply List.ext_getElem hl
  intro i h1 h2
  have := h i h1
  simpa [List.getD, List.getElem?_eq_getElem h1, List.getElem?_eq_getElem h2] using this
theorem getD_rep (n j : Nat) (x : Int) (h : j < n) : (List.replicate n x).getD j 0 = x := by simp [List.getD, h]
theorem getD_app (xs ys : List Int) (j : Nat) : (xs ++ ys).getD j 0 = if j < xs.length then xs.getD j 0 else ys.getD (j - xs.length) 0 := by
  simp only [List.getD, List.getElem?_append]
  split <;> rfl
theorem getD_map (f : Int → Int) (xs : List Int) (j : Nat) (h : j < xs.length) : (xs.map f).getD j 0 = f (xs.getD j 0) := by
  simp [List.getD, List.getElem?_eq_getElem h]

/-- n bytes from p on. -/
def pgs (bs : List Int) (p n : Nat) : List Int := (bs.drop p).take n
theorem pgs_length {bs : List Int} {p n : Nat} (h : p + n ≤ bs.length) : (pgs bs p n).length = n := by simp [pgs]; omega
theorem pgs_at {bs : List Int} {p n j : Nat} (h : j < n) : (pgs bs p n).getD j 0 = bs.getD (p + j) 0 := by
  simp only [pgs, List.getD, List.getElem?_take, List.getElem?_drop]
  rw [if_pos h]
theorem pgs_bys {bs : List Int} (h : Bys bs) (p n : Nat) : Bys (pgs bs p n) := (h.drop p).take n
theorem pgs_ext {bs bs' : List Int} {p p' n : Nat} (h : p + n ≤ bs.length) (h' : p' + n ≤ bs'.length) (he : ∀ j, j < n → bs.getD (p + j) 0 = bs'.getD (p' + j) 0) : pgs bs p n = pgs bs' p' n := by
  refine list_ext5 (by rw [pgs_length h, pgs_length h']) (fun j hj => ?_)
  rw [pgs_length h] at hj
  rw [pgs_at hj, pgs_at hj, he j hj]
theorem pgs_eq {bs xs : List Int} {p n : Nat} (h : p + n ≤ bs.length) (hx : xs.length = n) (he : ∀ j, j < n → bs.getD (p + j) 0 = xs.getD j 0) : pgs bs p n = xs := by
  refine list_ext5 (by rw [pgs_length h, hx]) (fun j hj => ?_)
  rw [pgs_length h] at hj
  rw [pgs_at hj, he j hj]
theorem pgs_split (bs : List Int) (p a b : Nat) : pgs bs p (a + b) = pgs bs p a ++ pgs bs (p + a) b := by
  simp only [pgs]
  rw [List.take_add, List.drop_drop]
theorem splice_at {L cs : List Int} {p : Nat} (h : p + cs.length ≤ L.length) (j : Nat) : (splice L p cs).getD j 0 = if p ≤ j ∧ j < p + cs.length then cs.getD (j - p) 0 else L.getD j 0 := by
  unfold splice
  rw [getD_app, getD_app]
  have hl : (L.take p).length = p := by simp; omega
  rw [hl]
  by_cases h1 : j < p
  · rw [if_pos h1, if_neg (by omega)]
    simp [List.getD, h1]
  · rw [if_neg h1]
    by_cases h2 : j - p < cs.length
    · rw [if_pos h2, if_pos (by omega)]
    · rw [if_neg h2, if_neg (by omega)]
      simp only [List.getD, List.getElem?_drop]
      rw [show p + cs.length + (j - p - cs.length) = j from by omega]
theorem splice_bys {L cs : List Int} {p : Nat} (h : Bys L) (h2 : Bys cs) : Bys (splice L p cs) := (h.take p).app (h2.app (h.drop _))

/-! ### the chip -/
structure DSt where
  A : Int
  B : Int
  C : Nat
  D : Nat
  E : Nat
  bs : List Int
  nx : List Int
  er : List Int
def DSt.at (N : DSt) (i k : Nat) : Nat := (i * N.D + k) * (N.E + 16)
def DSt.pg (N : DSt) (i k : Nat) : List Int := pgs N.bs (N.at i k) (N.E + 16)
structure DSt.Ok (N : DSt) (n : Nat) : Prop where
  C0 : 4 ≤ N.C
  C1 : N.C ≤ 64
  D0 : 2 ≤ N.D
  D1 : N.D ≤ 32
  E0 : 16 ≤ N.E
  E1 : N.E ≤ 256
  len : N.bs.length = N.C * N.D * (N.E + 16)
  nl : N.nx.length = N.C
  el : N.er.length = N.C
  bys : Bys N.bs
  nx : ∀ x ∈ N.nx, 0 ≤ x ∧ x ≤ N.D
  er : ∀ x ∈ N.er, 0 ≤ x ∧ x ≤ n
/-- The same geometry. -/
def DSt.Like (N M : DSt) : Prop := M.A = N.A ∧ M.B = N.B ∧ M.C = N.C ∧ M.D = N.D ∧ M.E = N.E
theorem DSt.Like.refl (N : DSt) : N.Like N := ⟨rfl, rfl, rfl, rfl, rfl⟩
theorem DSt.Like.trans {N M K : DSt} (h : N.Like M) (k : M.Like K) : N.Like K := ⟨k.1.trans h.1, k.2.1.trans h.2.1, k.2.2.1.trans h.2.2.1, k.2.2.2.1.trans h.2.2.2.1, k.2.2.2.2.trans h.2.2.2.2⟩

theorem q_lt {i k C D : Nat} (hi : i < C) (hk : k < D) : i * D + k < C * D := by
  have := Nat.mul_le_mul_right D (show i + 1 ≤ C by omega)
  rw [Nat.add_mul] at this
  omega
theorem q_inj {i k i' k' D : Nat} (hk : k < D) (hk' : k' < D) (h : i * D + k = i' * D + k') : i = i' ∧ k = k' := by
  have h1 : (i * D + k) / D = i := by rw [Nat.mul_comm, Nat.mul_add_div (by omega), Nat.div_eq_of_lt hk]; omega
  have h2 : (i' * D + k') / D = i' := by rw [Nat.mul_comm, Nat.mul_add_div (by omega), Nat.div_eq_of_lt hk']; omega
  have : i = i' := by rw [← h1, h, h2]
  subst this
  omega
theorem q_apart {q q' z : Nat} (h : q < q') : q * z + z ≤ q' * z := by
  have := Nat.mul_le_mul_right z (show q + 1 ≤ q' by omega)
  rw [Nat.add_mul] at this
  omega
section
variable {N : DSt} {n : Nat}
theorem DSt.Ok.at_le (h : N.Ok n) {i k : Nat} (hi : i < N.C) (hk : k < N.D) : N.at i k + (N.E + 16) ≤ N.bs.length := by
  rw [h.len]
  exact q_apart (q_lt hi hk)
theorem DSt.apart {i k i' k' : Nat} (hk : k < N.D) (hk' : k' < N.D) (h : ¬ (i = i' ∧ k = k')) : N.at i k + (N.E + 16) ≤ N.at i' k' ∨ N.at i' k' + (N.E + 16) ≤ N.at i k := by
  have : i * N.D + k ≠ i' * N.D + k' := fun e => h (q_inj hk hk' e)
  rcases Nat.lt_or_gt_of_ne this with h1 | h1
  · exact .inl (q_apart h1)
  · exact .inr (q_apart h1)
theorem DSt.Ok.big (h : N.Ok n) : N.C * N.D * (N.E + 16) ≤ 557056 :=
  Nat.mul_le_mul (Nat.mul_le_mul h.C1 h.D1) (show N.E + 16 ≤ 272 by have := h.E1; omega)
theorem DSt.Ok.nxAt (h : N.Ok n) {i : Nat} (hi : i < N.C) : 0 ≤ N.nx.getD i 0 ∧ N.nx.getD i 0 ≤ N.D := by
  have hl : i < N.nx.length := by rw [h.nl]; exact hi
  rw [show N.nx.getD i 0 = N.nx[i] from by simp [List.getD, List.getElem?_eq_getElem hl]]
  exact h.nx _ (List.getElem_mem hl)
theorem DSt.Ok.erAt (h : N.Ok n) {i : Nat} (hi : i < N.C) : 0 ≤ N.er.getD i 0 ∧ N.er.getD i 0 ≤ n := by
  have hl : i < N.er.length := by rw [h.el]; exact hi
  rw [show N.er.getD i 0 = N.er[i] from by simp [List.getD, List.getElem?_eq_getElem hl]]
  exact h.er _ (List.getElem_mem hl)
theorem DSt.Ok.pgLen (h : N.Ok n) {i k : Nat} (hi : i < N.C) (hk : k < N.D) : (N.pg i k).length = N.E + 16 := pgs_length (h.at_le hi hk)
theorem DSt.Ok.more {m : Nat} (h : N.Ok n) (hm : n ≤ m) : N.Ok m := ⟨h.1, h.2, h.3, h.4, h.5, h.6, h.7, h.8, h.9, h.10, h.11, fun x hx => by have := h.12 x hx; omega⟩
end

def isB (N : DSt) (b : Int) : Bool := decide (0 ≤ b ∧ b < N.C)
def isP (N : DSt) (b p : Int) : Bool := decide ((0 ≤ b ∧ b < N.C) ∧ 0 ≤ p ∧ p < N.D)
def readD (N : DSt) (b p : Int) : Int × List Int × List Int :=
  if isP N b p then (0, pgs N.bs (N.at b.toNat p.toNat) N.E, pgs N.bs (N.at b.toNat p.toNat + N.E) 16) else (1, [], [])
def DSt.put (N : DSt) (i k : Nat) (xs : List Int) : DSt := { N with bs := splice N.bs (N.at i k) xs, nx := N.nx.set i (N.nx.getD i 0 + 1) }
def progD (S : PSt) (N : DSt) (b p : Int) (d s : List Int) : Int × PSt × DSt :=
  if isP N b p && (decide (d.length = N.E) && decide (s.length = 16)) then
    if p = N.nx.getD b.toNat 0 then
      if S.step.1 then
        if S.step.2.2.failed then (7, S.step.2.2, N.put b.toNat p.toNat ((d ++ s).map (fun x => bits .and .u8 x 170)))
        else (0, S.step.2.2, N.put b.toNat p.toNat (d ++ s))
      else if S.step.2.1 then (6, S.step.2.2, N.put b.toNat p.toNat ((d ++ s).map (fun x => bits .or .u8 x S.step.2.2.mask)))
      else (6, S.step.2.2, N)
    else (8, S, N)
  else (1, S, N)
def DSt.wipe (N : DSt) (i : Nat) (m : Int) : DSt := { N with bs := fill N.bs (N.at i 0) m (N.D * (N.E + 16)) }
def DSt.count (N : DSt) (i : Nat) : DSt := { N with nx := N.nx.set i 0, er := N.er.set i (N.er.getD i 0 + 1) }
def eraseD (S : PSt) (N : DSt) (b : Int) : Int × PSt × DSt :=
  if isB N b then
    if S.step.1 then
      if S.step.2.2.failed then (7, S.step.2.2, N) else (0, S.step.2.2, (N.wipe b.toNat 255).count b.toNat)
    else if S.step.2.1 then (6, S.step.2.2, N.wipe b.toNat S.step.2.2.mask) else (6, S.step.2.2, N)
  else (1, S, N)
def nextD (N : DSt) (b : Int) : Int := if isB N b then N.nx.getD b.toNat 0 else 0
def countD (N : DSt) (b : Int) : Int := if isB N b then N.er.getD b.toNat 0 else 0

theorem set_all {xs : List Int} {i : Nat} {y : Int} {P : Int → Prop} (h : ∀ x ∈ xs, P x) (hy : P y) : ∀ x ∈ xs.set i y, P x := by
  intro x hx
  rcases List.mem_or_eq_of_mem_set hx with h' | rfl
  · exact h x h'
  · exact hy
theorem DSt.Ok.put {N : DSt} {n : Nat} (h : N.Ok n) {i k : Nat} (hi : i < N.C) (hk : k < N.D) (hnx : (k : Int) = N.nx.getD i 0) {xs : List Int} (hl : xs.length = N.E + 16) (hx : Bys xs) : (N.put i k xs).Ok n := by
  have ha := h.at_le hi hk
  refine ⟨h.1, h.2, h.3, h.4, h.5, h.6, ?_, ?_, h.9, splice_bys h.bys hx, ?_, h.12⟩
  · show (splice N.bs (N.at i k) xs).length = _
    rw [length_splice _ _ _ (by omega), h.len]; rfl
  · show (N.nx.set i _).length = _
    rw [List.length_set, h.nl]; rfl
  · exact set_all h.nx ⟨by omega, by show _ ≤ (N.D : Int); omega⟩
theorem DSt.block_le {N : DSt} {n : Nat} (h : N.Ok n) {i : Nat} (hi : i < N.C) : N.at i 0 + N.D * (N.E + 16) ≤ N.bs.length := by
  rw [h.len]
  unfold DSt.at
  rw [Nat.add_zero, ← Nat.add_mul, ← Nat.succ_mul]
  exact Nat.mul_le_mul_right _ (Nat.mul_le_mul_right _ hi)
theorem DSt.Ok.wipe {N : DSt} {n : Nat} (h : N.Ok n) {i : Nat} (m : Int) : (N.wipe i m).Ok n := by
  refine ⟨h.1, h.2, h.3, h.4, h.5, h.6, ?_, h.8, h.9, fill_bys h.bys _ _ _, h.11, h.12⟩
  show (fill _ _ _ _).length = _
  rw [fill_length, h.len]; rfl
theorem DSt.Ok.count {N : DSt} {n : Nat} (h : N.Ok n) {i : Nat} (hi : i < N.C) : (N.count i).Ok (n + 1) := by
  have he := h.erAt hi
  refine ⟨h.1, h.2, h.3, h.4, h.5, h.6, h.7, ?_, ?_, h.10, ?_, ?_⟩
  · show (N.nx.set i _).length = _
    rw [List.length_set, h.nl]; rfl
  · show (N.er.set i _).length = _
    rw [List.length_set, h.el]; rfl
  · exact set_all h.nx ⟨by omega, by show _ ≤ (N.D : Int); omega⟩
  · exact set_all (fun x hx => by have := h.er x hx; omega) ⟨by omega, by omega⟩
theorem isP_of {N : DSt} {b p : Int} (h : isP N b p = true) : (0 ≤ b ∧ b < N.C) ∧ 0 ≤ p ∧ p < N.D := by simpa [isP] using h
theorem isB_of {N : DSt} {b : Int} (h : isB N b = true) : 0 ≤ b ∧ b < N.C := by simpa [isB] using h
theorem progD_ok {S : PSt} {N : DSt} {b p : Int} {d s : List Int} {n : Nat} (hS : S.Ok n) (hN : N.Ok n) (hd : Bys d) (hs : Bys s) : (progD S N b p d s).2.1.Ok (n + 1) ∧ (progD S N b p d s).2.2.Ok (n + 1) ∧ N.Like (progD S N b p d s).2.2 := by
  have h1 := hS.step
  have h2 := hN.more (show n ≤ n + 1 by omega)
  have hl : N.Like N := DSt.Like.refl N
  unfold progD
  split
  · rename_i hp
    simp only [Bool.and_eq_true, decide_eq_true_eq] at hp
    obtain ⟨hp, hd1, hs1⟩ := hp
    have hu := isP_of hp
    split
    · rename_i hpn
      have hput : ∀ xs : List Int, xs.length = N.E + 16 → Bys xs → (N.put b.toNat p.toNat xs).Ok (n + 1) := fun xs h3 h4 => h2.put (by omega) (by omega) (by omega) h3 h4
      have hlp : ∀ xs, N.Like (N.put b.toNat p.toNat xs) := fun xs => ⟨rfl, rfl, rfl, rfl, rfl⟩
      split
      · split
        · exact ⟨h1, hput _ (by simp; omega) (turn_bys _ _ (hd.app hs)), hlp _⟩
        · exact ⟨h1, hput _ (by simp; omega) (hd.app hs), hlp _⟩
      · split
        · exact ⟨h1, hput _ (by simp; omega) (turn_bys _ _ (hd.app hs)), hlp _⟩
        · exact ⟨h1, h2, hl⟩
    · exact ⟨hS.more (by omega), h2, hl⟩
  · exact ⟨hS.more (by omega), h2, hl⟩
theorem eraseD_ok {S : PSt} {N : DSt} {b : Int} {n : Nat} (hS : S.Ok n) (hN : N.Ok n) : (eraseD S N b).2.1.Ok (n + 1) ∧ (eraseD S N b).2.2.Ok (n + 1) ∧ N.Like (eraseD S N b).2.2 := by
  have h1 := hS.step
  have h2 := hN.more (show n ≤ n + 1 by omega)
  have hl : N.Like N := DSt.Like.refl N
  unfold eraseD
  split
  · rename_i hb
    have hu := isB_of hb
    split
    · split
      · exact ⟨h1, h2, hl⟩
      · exact ⟨h1, (hN.wipe (i := b.toNat) 255).count (i := b.toNat) (show b.toNat < N.C by omega), ⟨rfl, rfl, rfl, rfl, rfl⟩⟩
    · split
      · exact ⟨h1, h2.wipe _, ⟨rfl, rfl, rfl, rfl, rfl⟩⟩
      · exact ⟨h1, h2, hl⟩
  · exact ⟨hS.more (by omega), h2, hl⟩
end Go.Proofs.Ythiehpofmlbehaa
