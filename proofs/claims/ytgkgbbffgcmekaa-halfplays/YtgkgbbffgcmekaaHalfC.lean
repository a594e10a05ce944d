/-
  The contracts of package half: program.
-/
import Derived.Test.YtgkgbbffgcmekaaHalfB
namespace Go.Proofs.Ytgkgbbffgcmekaa
open Go.RowKit
set_option linter.unusedVariables false
set_option maxRecDepth 100000

set_option maxHeartbeats 400000 in
theorem hprogram_any (base : Nat) (w : World) (L : Lay) (S : PSt) (N : NSt) (n : Nat) (h : Dev base w L S N) (okS : S.Ok n) (ok : N.Ok n) (hn : n < 700000) (hsz : base ≤ w.heap.size) (p : Nat) (hp : p ≤ 70000)
    (v : Value) (b : List Int) (hv : Row w v b) (hb : b.length ≤ 65536) (hsep : 0 < b.length → ∀ vb off n cap, v = .slice (some ⟨vb, off, none⟩) n cap → vb ∉ [L.pb, L.bb]) :
    Calls Try.prog 46 #[.pointer (some ⟨L.c, 0, none⟩), .int .i64 p, v] w fun e w' =>
      e = .returned (.int .i64 (progR S N.bs p b).1) ∧ Dev base w' L (progR S N.bs p b).2.1 { N with bs := (progR S N.bs p b).2.2 } ∧ Only [L.pb, L.bb] w w' := by
  have hlenr := hv.lenRun
  have hpg := Program_any base w L S N n h okS ok (by omega) p (wf_i64 (by omega) (by omega)) v b hv hb hsep
  have hok1 := progA_ok (p := (p : Int)) okS ok.bys hv.bys
  have hcode := progA_code S N.bs p b
  unfold progR
  obtain ⟨⟨x1, S1, bs1⟩, hq⟩ : ∃ r, progA S N.bs p b = r := ⟨_, rfl⟩
  rw [hq] at hpg hok1 hcode ⊢
  simp only at hpg hok1 hcode ⊢
  have ok1 : NSt.Ok { N with bs := bs1 } (n + b.length) := (ok.more (by omega)).bytes hok1.2.1 hok1.2.2
  have okS1 := hok1.1
  by_cases hx : x1 = 0
  · subst hx
    rw [if_pos rfl]
    obtain ⟨q, hqq⟩ : ∃ q : Nat, p + b.length = q := ⟨_, rfl⟩
    have hw1 : IntKind.i64.wrap ((p : Int) + (b.length : Int)) = (q : Int) := by rw [i64_in _ (by omega)]; omega
    rw [show (p : Int) + (b.length : Int) = (q : Int) by omega]
    have hlt := h.2.lt
    have HN := hide hn
    have HQ : Hid (q ≤ 200000) := hide (by omega)
    have HBL := hide hb
    have hpL := hlt.2.1
    have hbL := hlt.2.2.1
    have HV := hide hv
    clear h hsep hq hok1 hcode hv ok okS hqq hb
    obtain ⟨len, hlen⟩ : ∃ z, b.length = z := ⟨_, rfl⟩
    rw [hlen] at hw1 hlenr ok1 okS1 HBL
    clear hlen hlt
    go_enter Try.func46, Try.ntmps46
    go_wp2_with fail
    refine hpg.mono ?_
    rintro e w1 ⟨rfl, hD1, hO1⟩
    have hsz1 : base ≤ w1.heap.size := Nat.le_trans hsz hO1.size
    have hrow : Row (w1.alloc (.cells #[.int .u8 0] 5)) (.slice (some ⟨w1.heap.size, 0, none⟩) 1 1) [0] := row_new1 w1 0 (by omega)
    have hD2 := hD1.still (only_grown (World.grownBy_alloc w1 (.cells #[.int .u8 0] 5) none) (by simp))
    have hO2 : Only [L.pb, L.bb] w (w1.alloc (.cells #[.int .u8 0] 5)) := hO1.trans (only_grown (World.grownBy_alloc w1 (.cells #[.int .u8 0] 5) none) (by simp))
    have hpg2 := Program_any base _ L S1 { N with bs := bs1 } (n + len) hD2 okS1 ok1 (by have := HN.out; have := HBL.out; omega) q (wf_i64 (by omega) (by have := HQ.out; omega)) _ [0] hrow (by simp) (by intro _ vb off n cap e; simp at e ⊢; omega)
    simp only at hpg2
    clear hpg hD1 hO1 hrow hD2
    go_wp2_with fail
    refine hpg2.mono ?_
    rintro e w3 ⟨rfl, hD3, hO3⟩
    go_wp2
    go_ret
    exact ⟨rfl, hD3, hO2.trans hO3⟩
  · rw [if_neg hx]
    have hx' : (x1 != 0) = true := by simpa using hx
    clear h hsep hq hok1 hcode hv ok okS ok1 okS1 hb hx
    go_enter Try.func46, Try.ntmps46
    go_wp2_with fail
    refine hpg.mono ?_
    rintro e w1 ⟨rfl, hD1, hO1⟩
    go_wp2
    go_ret
    exact ⟨rfl, hD1, hO1⟩

end Go.Proofs.Ytgkgbbffgcmekaa
