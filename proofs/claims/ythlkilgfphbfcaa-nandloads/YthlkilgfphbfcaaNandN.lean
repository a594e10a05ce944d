/-
  Package nand's Load: its contract.
-/
import Derived.Test.YthlkilgfphbfcaaNandM
import Derived.Test.YthlkilgfphbfcaaCuts
namespace Go.Proofs.Ythlkilgfphbfcaa
open Go.RowKit
set_option linter.unusedVariables false
set_option maxRecDepth 100000

/-- What Load keeps while it goes. -/
structure LInv (base : Nat) (w wr : World) (L : DLay) (N : DSt) (X : List Int) (mb gb : Nat) (nx : List Int) (i k : Nat) : Prop where
  blk : Blk wr L.c (dcells N { L with mb := mb }) 73
  nxt : Blk wr L.nb (iv .i64 nx).toArray 3
  pgm : ∃ f, PgMap wr mb (i * N.D + k) f ∧ LPages base wr mb N X i k f
  geo : Blk wr gb (gcells N.A N.B N.C N.D N.E) 23
  only : Only [L.c, L.nb] w wr
  sz : w.heap.size < wr.heap.size
theorem LInv.lt {base : Nat} {w wr : World} {L : DLay} {N : DSt} {X : List Int} {mb gb : Nat} {nx : List Int} {i k : Nat} (h : LInv base w wr L N X mb gb nx i k) : mb < wr.heap.size := by
  obtain ⟨f, hf, _⟩ := h.pgm
  exact hf.lt
/-- Loaded, the chip is one. -/
theorem LInv.done {base n m : Nat} {w wr : World} {L : DLay} {S : PSt} {N : DSt} {X : List Int} {mb gb : Nat} (h : LInv base w wr L N X mb gb (nxB N X N.C) N.C 0) (hd : NDev base w L S N m) (ok : N.Ok n) (hX : X.length = N.C * N.D * (N.E + 16)) (hmb : w.heap.size ≤ mb) (hsz : base ≤ w.heap.size) (hmo : ∀ k, L.mo = some k → k < w.heap.size) :
    NDev base wr { L with mb := mb } S (N.load X) (N.C * N.D) ∧ Only [L.c, L.nb] w wr := by
  obtain ⟨⟨n1, n2, n3, n4, n5, n6⟩, m1, m2, m3, m4⟩ := hd.chip.ne
  obtain ⟨b1, b2, b3, b4⟩ := hd.chip.lt
  obtain ⟨f, hf, hp⟩ := h.pgm
  have hm := hd.mo
  refine ⟨⟨hd.pow.only h.only (by simp; omega) (fun q hq => by have := hm q hq; simp; omega), ⟨h.blk, ?_, hd.chip.ers.only h.only (by simp; omega), ⟨f, by simpa using hf, ⟨?_, ?_, hp.inj⟩⟩, hd.chip.lt, ⟨⟨n1, n2, n3, n4, n5, n6⟩, by simp only; omega⟩⟩, ?_⟩, h.only⟩
  · have := h.nxt
    rw [nxB_end] at this
    exact this
  · intro i k v hi hk hv
    obtain ⟨h1, h2, g, cap, rfl, hg, ho⟩ := hp.own i k v hi hk hv
    refine ⟨g, cap, rfl, ho, ⟨by simp only; omega, fun e => by have := hmo g e; omega⟩, ?_⟩
    have : (N.load X).nx.getD i 0 = nxA X N.D (N.E + 16) i N.D := range_getD hi
    rw [this]
    exact nxA_gt hk h2
  · intro i k hi hk hv
    have hi' : i < N.C := hi
    have hk' : k < N.D := hk
    exact ff_rep (hp.non i k hi hk (.inl hi') hv) (pgs_length (by show (i * N.D + k) * (N.E + 16) + (N.E + 16) ≤ X.length; rw [hX]; exact q_apart (q_lt hi' hk')))
  · intro k hk
    have h1 := hmo k hk
    have h2 := hm k hk
    simp only
    omega
/-- A page is loaded. -/
theorem LInv.page {base n : Nat} {w wr : World} {L : DLay} {N : DSt} {X : List Int} {mb gb i k : Nat} (h : LInv base w wr L N X mb gb (nxL N X i k) i k) (ok : N.Ok n) (hi : i < N.C) (hk : k < N.D) (hne : L.c ≠ L.nb) (hlt : L.c < base ∧ L.nb < base) (hmb : w.heap.size ≤ mb) (hsz : base ≤ w.heap.size) (hgb : w.heap.size ≤ gb ∧ gb ≠ mb)
    (bl off cap : Nat) (hr : Row wr (.slice (some ⟨bl, off, none⟩) (N.E + 16) cap) (pgs X ((i * N.D + k) * (N.E + 16)) (N.E + 16))) (hX : X.length = N.C * N.D * (N.E + 16)) :
    Calls Try.prog 56 #[.pointer (some ⟨L.c, 0, none⟩), .agg #[.int .i64 i, .int .i64 k], .slice (some ⟨bl, off, none⟩) (N.E + 16) cap] wr fun e w' => e = .returned (.tuple #[]) ∧ LInv base w w' L N X mb gb (nxL N X i (k + 1)) i (k + 1) := by
  obtain ⟨f, hf, hp⟩ := h.pgm
  have hpl : (pgs X ((i * N.D + k) * (N.E + 16)) (N.E + 16)).length = N.E + 16 := pgs_length (by rw [hX]; exact q_apart (q_lt hi hk))
  have hC := ok.C1
  have hD := ok.D1
  have hE := ok.E1
  have hmm : i * N.D + k < 64 * 32 := Nat.lt_of_lt_of_le (q_lt hi hk) (Nat.mul_le_mul hC hD)
  have hml := hf.lt
  refine (loadPage_any wr L.c mb L.nb N.C N.E _ f (i * N.D + k) (nxL N X i k) _ (pgs X ((i * N.D + k) * (N.E + 16)) (N.E + 16)) i k h.blk rfl rfl hf h.nxt (nxL_length _ _ _ _) hi (by omega) (by omega) (by omega) (by omega) bl off cap (by rw [hpl]) hr (by rw [hpl]; omega)).mono ?_
  rintro e w' ⟨rfl, h'⟩
  refine ⟨rfl, ?_⟩
  have hwr := h.only.size
  have hbl := h.blk.lt
  have hnl := h.nxt.lt
  have hgl := h.geo.lt
  rcases h' with ⟨hff, hO⟩ | ⟨hff, u, g, ucap, rfl, hg, ho, hpm, hnx, hO⟩
  · refine ⟨h.blk.only hO (by simp), by rw [← nxL_no N X hff]; exact h.nxt.only hO (by simp), ⟨f, (hf.only hO (by simp)).more (by omega), (hp.only hO (by simp)).no hff⟩, h.geo.only hO (by simp), h.only.past hO (by simp), Nat.lt_of_lt_of_le h.sz hO.size⟩
  · rw [hpl] at ho hpm
    refine ⟨h.blk.only hO (by simp; omega), by rw [← nxL_yes N X hi hff]; exact hnx, ⟨_, by rw [← Nat.add_assoc]; exact hpm, hp.yes hff hO (fun q hq => by simp at hq; omega) hg hml (by omega) ho⟩, h.geo.only hO (by simp; omega), h.only.past hO (fun q hq => by simp at hq ⊢; omega), Nat.lt_of_lt_of_le h.sz hO.size⟩

theorem LInv.start {base n m : Nat} {w : World} {L : DLay} {S : PSt} {N : DSt} (hd : NDev base w L S N m) (ok : N.Ok n) (X : List Int) :
    LInv base w (((w.setCell ⟨L.c, 6, none⟩ (.map (some (w.heap.size + 1)))).alloc (.cells (gcells N.A N.B N.C N.D N.E) 23)).alloc (.map #[] 0)) L N X (w.heap.size + 1) w.heap.size (nxB N X 0) 0 0 := by
  obtain ⟨⟨n1, n2, n3, n4, n5, n6⟩, m1, m2, m3, m4⟩ := hd.chip.ne
  have hO1 : Only [L.c] w (w.setCell ⟨L.c, 6, none⟩ (.map (some (w.heap.size + 1)))) := only_setCell _ _ _ _ _ (by simp)
  have hs1 : (w.setCell ⟨L.c, 6, none⟩ (.map (some (w.heap.size + 1)))).heap.size = w.heap.size := by simp
  generalize hw1 : w.setCell ⟨L.c, 6, none⟩ (.map (some (w.heap.size + 1))) = w1 at *
  have hO2 : Only [] w1 (w1.alloc (.cells (gcells N.A N.B N.C N.D N.E) 23)) := only_grown (World.grownBy_alloc _ _ none) (by simp)
  have hO3 : Only [] (w1.alloc (.cells (gcells N.A N.B N.C N.D N.E) 23)) ((w1.alloc (.cells (gcells N.A N.B N.C N.D N.E) 23)).alloc (.map #[] 0)) := only_grown (World.grownBy_alloc _ _ none) (by simp)
  have hs2 : (w1.alloc (.cells (gcells N.A N.B N.C N.D N.E) 23)).heap.size = w.heap.size + 1 := by simp [hs1]
  have hb1 : Blk w1 L.c (dcells N { L with mb := w.heap.size + 1 }) 73 := by
    have := hd.chip.blk.set 6 (.map (some (w.heap.size + 1)))
    rw [hw1] at this
    exact this
  have hg := Blk.new w1 (gcells N.A N.B N.C N.D N.E) 23
  rw [hs1] at hg
  refine ⟨(hb1.only hO2 (by simp)).only hO3 (by simp), ?_, ⟨fun _ _ => none, ?_, ⟨(fun a b v _ _ e => by cases e), (fun a b _ _ h _ => by omega), (fun a b a' b' g n cap n' cap' _ _ _ _ e => by cases e)⟩⟩, hg.only hO3 (by simp), ?_, ?_⟩
  · rw [nxB_zero ok]
    exact ((hd.chip.nxt.only hO1 (by simp; omega)).only hO2 (by simp)).only hO3 (by simp)
  · have := PgMap.made (w1.alloc (.cells (gcells N.A N.B N.C N.D N.E) 23))
    rw [hs2] at this
    simpa using this
  · exact ((hO1.wide (by simp) : Only [L.c, L.nb] w w1).past hO2 (by simp)).past hO3 (by simp)
  · simp [hs1]; omega
/-- The first page of a block comes next. -/
theorem LInv.block {base : Nat} {w wr : World} {L : DLay} {N : DSt} {X : List Int} {mb gb i : Nat} (h : LInv base w wr L N X mb gb (nxB N X i) i 0) (hi : i < N.C) (hne : L.c ≠ L.nb) (hlt : L.nb < base) (hmb : w.heap.size ≤ mb) (hgb : w.heap.size ≤ gb) (hsz : base ≤ w.heap.size) :
    LInv base w (wr.setCell ⟨L.nb, i, none⟩ (.int .i64 0)) L N X mb gb (nxL N X i 0) i 0 := by
  have hO : Only [L.nb] wr (wr.setCell ⟨L.nb, i, none⟩ (.int .i64 0)) := only_setCell _ _ _ _ _ (by simp)
  obtain ⟨f, hf, hp⟩ := h.pgm
  refine ⟨h.blk.only hO (by simp; omega), by rw [← nxB_set N X hi]; exact h.nxt.setI5 i 0, ⟨f, hf.only hO (by simp; omega), hp.only hO (by simp; omega)⟩, h.geo.only hO (by simp; omega), h.only.past hO (by simp), Nat.lt_of_lt_of_le h.sz hO.size⟩
theorem LInv.next {base : Nat} {w wr : World} {L : DLay} {N : DSt} {X : List Int} {mb gb i : Nat} (h : LInv base w wr L N X mb gb (nxL N X i N.D) i N.D) : LInv base w wr L N X mb gb (nxB N X (i + 1)) (i + 1) 0 := by
  obtain ⟨f, hf, hp⟩ := h.pgm
  refine ⟨h.blk, by rw [← nxL_end]; exact h.nxt, ⟨f, ?_, hp.next⟩, h.geo, h.only, h.sz⟩
  rw [Nat.add_zero, Nat.add_mul, Nat.one_mul]
  exact hf

set_option maxHeartbeats 4000000 in
theorem Load5_any (base : Nat) (w : World) (L : DLay) (S : PSt) (N : DSt) (m n : Nat) (h : NDev base w L S N m) (ok : N.Ok n) (hsz : base ≤ w.heap.size) (hmo : ∀ k, L.mo = some k → k < w.heap.size) (v : Value) (X : List Int) (hr : Row w v X) (hX : X.length = N.C * N.D * (N.E + 16)) (hv : ∀ b off n cap, v = .slice (some ⟨b, off, none⟩) n cap → b ≠ L.c ∧ b ≠ L.nb) :
    Calls Try.prog 35 #[.pointer (some ⟨L.c, 0, none⟩), v] w fun e w' => e = .returned (.int .i64 0) ∧ ∃ mb, w.heap.size ≤ mb ∧ NDev base w' { L with mb := mb } S (N.load X) (N.C * N.D) ∧ Only [L.c, L.nb] w w' := by
  have hlen := hr.lenRun
  have hC := ok.C1
  have hD := ok.D1
  have hE := ok.E1
  have hC0 := ok.C0
  have hD0 := ok.D0
  have hbig := ok.big
  have c0 := (h.chip.blk.cell 0).trans (show _ = some (Value.int .i64 N.A) from rfl)
  have c1 := (h.chip.blk.cell 1).trans (show _ = some (Value.int .i64 N.B) from rfl)
  have c2 := (h.chip.blk.cell 2).trans (show _ = some (Value.int .i64 N.C) from rfl)
  have c3 := (h.chip.blk.cell 3).trans (show _ = some (Value.int .i64 N.D) from rfl)
  have c4 := (h.chip.blk.cell 4).trans (show _ = some (Value.int .i64 N.E) from rfl)
  have c6 := (h.chip.blk.cell 6).trans (show _ = some (Value.map (some L.mb)) from rfl)
  have c7 := (h.chip.blk.cell 7).trans (show _ = some (Value.slice (some ⟨L.nb, 0, none⟩) N.C N.C) from rfl)
  have f6 := h.chip.blk.frozen 6
  have hcl := h.chip.blk.lt
  have hm1 : ((N.C : Int) * (N.D : Int)) = ((N.C * N.D : Nat) : Int) := by simp
  have hm2 : ((N.C * N.D : Nat) : Int) * ((N.E : Int) + 16) = ((N.C * N.D * (N.E + 16) : Nat) : Int) := by simp
  have hcd : N.C * N.D ≤ 2048 := Nat.mul_le_mul hC hD
  rw [hX] at hlen
  have HM := hide h
  have HR := hide hr
  clear h hr
  have HXL := hide hX
  obtain ⟨T, hT⟩ : ∃ T, N.C * N.D * (N.E + 16) = T := ⟨_, rfl⟩
  obtain ⟨Q, hQ⟩ : ∃ Q, N.C * N.D = Q := ⟨_, rfl⟩
  rw [hT] at hlen hm2 hbig
  rw [hQ] at hm1 hm2 hcd
  have HT := hide hT
  have HQ := hide hQ
  clear hX
  have mm := @run_makeMap Try.prog
  clear hT hQ
  go_enter Try.func35, Try.ntmps35
  go_wp2_with fail
  have hI0 := LInv.start HM.out ok X
  unfold gcells at hI0
  generalize (((w.setCell ⟨L.c, 6, none⟩ (.map (some (w.heap.size + 1)))).alloc (.cells #[.int .i64 N.A, .int .i64 N.B, .int .i64 N.C, .int .i64 N.D, .int .i64 N.E] 23)).alloc (.map #[] 0)) = W0 at *
  have hne := HM.out.chip.ne
  have hlt := HM.out.chip.lt
  have hncb : L.c ≠ L.nb := hne.1.2.1
  have hCi : (0 : Int) < N.C := by omega
  clear c0 c1 c2 c3 c4 c6 c7 f6
  go_loopw [38] (fun s wr => ∃ i : Nat, i ≤ N.C ∧ s = .int .i64 i ∧ LInv base w wr L N X (w.heap.size + 1) w.heap.size (nxB N X i) i 0) (fun s _ => N.C - (intOf s).toNat)
  case atStart => exact ⟨0, Nat.zero_le _, rfl, hI0⟩
  case round =>
    obtain ⟨i, hi, rfl, hI⟩ := hrel
    by_cases hlt2 : i < N.C
    · have hlt2' : (i : Int) < N.C := by omega
      have d7 := (hI.blk.cell 7).trans (show _ = some (Value.slice (some ⟨L.nb, 0, none⟩) N.C N.C) from rfl)
      have dn : wr.cell? ⟨L.nb, i, none⟩ = some (.int .i64 ((nxB N X i).getD i 0)) := by rw [hI.nxt.cell i, List.getElem?_toArray, iv_at (by rw [nxB_length]; exact hlt2)]
      have df := hI.nxt.frozen i
      have hI1 := hI.block hlt2 hncb hlt.2.2.1 (by omega) (Nat.le_refl _) hsz
      have g3 := (hI1.geo.cell 3).trans (show _ = some (Value.int .i64 N.D) from rfl)
      generalize (nxB N X i).getD i 0 = y at *
      have HI1 := hide hI1
      clear hI hI1
      go_wp2_with fail
      generalize wr.setCell ⟨L.nb, i, none⟩ (.int .i64 0) = W1 at *
      go_loopw [49] (fun s wr => ∃ k : Nat, k ≤ N.D ∧ s = .int .i64 k ∧ LInv base w wr L N X (w.heap.size + 1) w.heap.size (nxL N X i k) i k) (fun s _ => N.D - (intOf s).toNat)
      case atStart => exact ⟨0, Nat.zero_le _, rfl, HI1.out⟩
      case round =>
        obtain ⟨k, hk, rfl, hI⟩ := hrel
        clear HI1 d7 dn df g3
        by_cases hlt3 : k < N.D
        · have hlt3' : (k : Int) < N.D := by omega
          have g3 := (hI.geo.cell 3).trans (show _ = some (Value.int .i64 N.D) from rfl)
          have hq := q_lt hlt2 hlt3
          have hap : (i * N.D + k) * (N.E + 16) + (N.E + 16) ≤ X.length := by rw [HXL.out]; exact q_apart hq
          obtain ⟨bl, off, off0, cap, nn, cap0, hve, hsl, hrp⟩ := (HR.out.only hI.only (fun b off n cap e => by have := hv b off n cap e; simp; omega)).page ((i * N.D + k) * (N.E + 16)) (N.E + 16) (by omega) hap
          have HRP := hide hrp
          have HI := hide hI
          have e1 : ((i : Int) * (N.D : Int)) = ((i * N.D : Nat) : Int) := by simp
          have e2 : (((i * N.D : Nat) : Int) + (k : Int)) * ((N.E : Int) + 16) = (((i * N.D + k) * (N.E + 16) : Nat) : Int) := by simp
          have e3 : (((i * N.D + k) * (N.E + 16) : Nat) : Int) + ((N.E : Int) + 16) = (((i * N.D + k) * (N.E + 16) + (N.E + 16) : Nat) : Int) := by simp
          have hl1 : i * N.D + k < 2048 := by rw [HQ.out] at hq; omega
          have hl2 : (i * N.D + k) * (N.E + 16) ≤ 557056 := by rw [HXL.out, HT.out] at hap; omega
          have hcall := HI.out.page ok hlt2 hlt3 hncb ⟨hlt.1, hlt.2.2.1⟩ (by omega) hsz (by omega) bl off cap HRP.out HXL.out
          have HC := hide hcall
          clear hcall hI hrp
          generalize hP : (i * N.D + k) * (N.E + 16) = P at *
          generalize hR : i * N.D = R at *
          rw [← e3] at hsl
          clear hR hP hap e3 hve
          have hl2' : (P : Int) ≤ 557056 := by omega
          have hl1' : (R : Int) + k < 2048 := by omega
          go_wp2_with fail
          refine Calls.mono HC.out ?_
          rintro e w5 ⟨rfl, hI5⟩
          go_wp2
          go_roundw
          case rel => exact ⟨k + 1, by omega, by go_num, hI5⟩
          case measure => simp [intOf]; omega
        · obtain rfl : k = N.D := by omega
          have hI2 := hI.next
          go_wp2
          go_roundw
          case rel => exact ⟨i + 1, by omega, by go_num, hI2⟩
          case measure => simp [intOf]; omega
    · obtain rfl : i = N.C := by omega
      have hD1 := hI.done HM.out ok HXL.out (by omega) hsz hmo
      go_wp2
      go_ret
      exact ⟨rfl, w.heap.size + 1, by omega, hD1⟩
end Go.Proofs.Ythlkilgfphbfcaa
