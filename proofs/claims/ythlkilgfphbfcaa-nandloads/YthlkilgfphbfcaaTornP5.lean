/-
  Plain matter of garretlaw05.NandTorn.
-/
import Derived.Test.YthlkilgfphbfcaaAwake05
namespace Go.Proofs.Ythlkilgfphbfcaa
open Go.RowKit
set_option linter.unusedVariables false
set_option maxRecDepth 100000

theorem KeptD.rowKept {w0 : World} {base m : Nat} {w w' : World} {L : DLay} {S : PSt} {N : DSt} (h : KeptD w0 base w L S N m) (hmb : L.mb < base) {v : Value} {xs : List Int} (hv : ∀ b off n cap, v = .slice (some ⟨b, off, none⟩) n cap → base ≤ b) (hr : Row w v xs) {l : List Nat} (hO : Only l w w') (hl : ∀ k ∈ l, k ∈ [L.pb, L.mb, L.nb, L.eb]) : Row w' v xs :=
  hr.only hO (fun b off n cap e hb => h.far (g := b) (hv b off n cap e) (by have := hv b off n cap e; omega) (hl b hb))
/-- What was put is read. -/
theorem readD_put {N : DSt} {n i k : Nat} {xs : List Int} (ok : N.Ok n) (hi : i < N.C) (hk : k < N.D) (hl : xs.length = N.E + 16) : readD (N.put i k xs) i k = (0, xs.take N.E, xs.drop N.E) := by
  have ha := ok.at_le hi hk
  have h0 : isP (N.put i k xs) i k = true := by simp [isP]; exact ⟨hi, hk⟩
  have hpg := put_pg_same ok hi hk hl
  have hlen : (N.put i k xs).bs.length = N.bs.length := by show (splice _ _ _).length = _; rw [length_splice _ _ _ (by omega)]
  have e1 := pgs_take (N.put i k xs).bs ((N.put i k xs).at i k) N.E 16 (by rw [hlen]; exact ha)
  have e2 := pgs_drop (N.put i k xs).bs ((N.put i k xs).at i k) N.E 16 (by rw [hlen]; exact ha)
  have hpg' : pgs (N.put i k xs).bs ((N.put i k xs).at i k) (N.E + 16) = xs := hpg
  rw [hpg'] at e1 e2
  unfold readD
  rw [h0, if_pos rfl, Int.toNat_natCast, Int.toNat_natCast]
  rw [← show (N.put i k xs).E = N.E from rfl] at e1 e2
  rw [← e1, ← e2]
  rfl
theorem put_next {N : DSt} {n i k : Nat} {xs : List Int} (ok : N.Ok n) (hi : i < N.C) : (N.put i k xs).nx.getD i 0 = N.nx.getD i 0 + 1 := getD_set_same _ _ _ (by rw [ok.nl]; exact hi)
theorem step_on (S : PSt) (h : S.off = false) (ha : S.armed = false) : S.step = (true, false, { S with steps := S.steps + 1 }) := by
  unfold PSt.step
  rw [h, ha]
  rfl
theorem failed_last (S : PSt) (h : 0 ≤ S.steps) : PSt.failed { S with steps := S.steps + 1, fails := [S.steps] } = true := by
  unfold PSt.failed
  simp
  omega
theorem failed_none (S : PSt) : PSt.failed { S with fails := [] } = false := by
  unfold PSt.failed
  simp
theorem eraseD_fails {S S' : PSt} {N : DSt} {i : Nat} (hi : i < N.C) (hs : S.step = (true, false, S')) (hf : S'.failed = true) : eraseD S N i = (7, S', N) := by
  rw [erase_on hi, hs]
  simp [hf]
theorem eraseD_done {S S' : PSt} {N : DSt} {i : Nat} (hi : i < N.C) (hs : S.step = (true, false, S')) (hf : S'.failed = false) : eraseD S N i = (0, S', (N.wipe i 255).count i) := by
  rw [erase_on hi, hs]
  simp [hf]
theorem PSt.Ok.fails {S : PSt} {n : Nat} (h : S.Ok n) (l : List Int) : PSt.Ok { S with fails := l } n := ⟨h.1, h.2, h.3, h.4, h.5⟩
theorem irow_one (w : World) (x : Int) (hx : (Lit.int .i64 x).wf = true) : IRow .i64 (w.alloc (.cells #[.int .i64 x] 3)) (.slice (some ⟨w.heap.size, 0, none⟩) 1 1) [x] := by
  have hb := Blk.new w #[.int .i64 x] 3
  have := IRow.mk (k := .i64) (w := w.alloc (.cells #[.int .i64 x] 3)) (b := w.heap.size) (off := 0) (cap := 1) (xs := [x]) (by simp) (by unfold maxLen; omega) (fun i hi => by
    match i, hi with
    | 0, _ => exact (hb.cell 0).trans rfl) (fun n hn => by simp at hn; subst hn; exact hx)
  simpa using this
/-- What the switch leaves: the next program comes to f, and leaves XS. -/
structure TornCut (w0 : World) (base : Nat) (w : World) (L : DLay) (N : DSt) (X Y : List Int) (xv yv wv : Value) (f : Int) (L1 : DLay) (S1 S2 : PSt) (XS : List Int) : Prop where
  kept : KeptD w0 base w L1 S1 N 0
  c : L1.c = L.c
  pb : L1.pb = L.pb
  mb : L1.mb < base
  ok : S1.Ok 0
  prog : progD S1 N 1 0 X Y = (f, S2, N.put 1 0 XS)
  len : XS.length = N.E + 16
  bys : Bys XS
  want : Own base w wv (XS.take N.E)
  x : Row w xv X
  y : Row w yv Y
theorem prog_torn {S : PSt} {N : DSt} {n i k : Nat} {d s : List Int} (ok : N.Ok n) (hi : i < N.C) (hk : k < N.D) (hd : d.length = N.E) (hs : s.length = 16) (hx : (k : Int) = N.nx.getD i 0) {S' : PSt} (hst : S.step = (false, true, S')) : progD S N i k d s = (6, S', N.put i k ((d ++ s).map (fun x => bits .or .u8 x S'.mask))) := by
  have h0 : isP N i k = true := by simp [isP]; omega
  unfold progD
  rw [h0, decide_eq_true hd, decide_eq_true hs, Int.toNat_natCast, Int.toNat_natCast, if_pos hx, hst]
  simp
theorem prog_fails {S S' : PSt} {N : DSt} {n i k : Nat} {d s : List Int} (ok : N.Ok n) (hi : i < N.C) (hk : k < N.D) (hd : d.length = N.E) (hs : s.length = 16) (hx : (k : Int) = N.nx.getD i 0) (hst : S.step = (true, false, S')) (hf : S'.failed = true) : progD S N i k d s = (7, S', N.put i k ((d ++ s).map (fun x => bits .and .u8 x 170))) := by
  have h0 : isP N i k = true := by simp [isP]; omega
  unfold progD
  rw [h0, decide_eq_true hd, decide_eq_true hs, Int.toNat_natCast, Int.toNat_natCast, if_pos hx, hst]
  simp [hf]
theorem turned_take (op : BinOp) (m : Int) (d s : List Int) : ((d ++ s).map (fun x => bits op .u8 x m)).take d.length = d.map (fun x => bits op .u8 x m) := by
  rw [List.map_append, List.take_left' (by simp)]
/-- A chip of which nothing is programmed has no pages: a block from base on is none of its own. -/
theorem KeptD.other0 {w0 : World} {base m g : Nat} {w w' : World} {L : DLay} {S : PSt} {N : DSt} (h : KeptD w0 base w L S N m) (hz : ∀ i, i < N.C → N.nx.getD i 0 = 0) (hO : Only [g] w w') (hg : base ≤ g) (hmb : L.mb < base) (hmo : L.mo ≠ some g) : KeptD w0 base w' L S N m := by
  obtain ⟨b1, b2, b3, b4⟩ := h.dev.chip.lt
  obtain ⟨f, hf, hpg⟩ := h.dev.chip.pgs
  have hw := h.wb
  refine ⟨⟨h.dev.pow.only hO (by simp; omega) (fun k hk => by simp; rintro rfl; exact hmo hk), ⟨h.dev.chip.blk.only hO (by simp; omega), h.dev.chip.nxt.only hO (by simp; omega), h.dev.chip.ers.only hO (by simp; omega), ⟨f, hf.only hO (by simp; omega), ⟨?_, hpg.non, hpg.inj⟩⟩, h.dev.chip.lt, h.dev.chip.ne⟩, h.dev.mo⟩, h.lo, Nat.le_trans h.size hO.size, h.wb, hO.below h.below (by simp; omega) (Nat.le_trans h.wb h.size)⟩
  intro i k v hi hk hv
  obtain ⟨_, _, _, _, _, hx⟩ := hpg.own i k v hi hk hv
  rw [hz i hi] at hx
  omega
theorem Own.apart {base g : Nat} {w w' : World} {v : Value} {xs : List Int} (h : Own base w v xs) {l : List Nat} (hO : Only l w w') (hv : v.ownBlock = some g) (hg : g ∉ l) : Own base w' v xs := h.only hO (fun k hk => by rw [hv] at hk; cases hk; exact hg)
end Go.Proofs.Ythlkilgfphbfcaa
