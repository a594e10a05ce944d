/-
  The walk of garretlaw07.FrameTells.
-/
import Derived.Test.YtnaklimfbddaaaaAwake07
import Derived.Test.YtnaklimfbddaaaaRefScan
import Derived.Test.YtnaklimfbddaaaaSame2
namespace Go.Proofs.Ytnaklimfbddaaaa
open Go.RowKit
set_option linter.unusedVariables false
set_option maxRecDepth 100000

set_option maxHeartbeats 4000000 in
theorem FrameTells_walk (bv0 : Value) (xs : List Int) (n : Int) (w : World) (w0 : IRow .u8 w bv0 xs) (w1 : (Lit.int .i64 n).wf = true) :
    Calls Try.prog 3 #[bv0, .int .i64 n] w fun e w' => e = .returned (.bool true) ∧ Below w.heap.size w w' := by
  have h := w0.bytes
  have hlen := h.lenRun
  have hnb := bounds_i64 w1
  by_cases hbig : 2000 < xs.length
  · have hbig' : (2000 : Int) < xs.length := by omega
    clear h w0
    go_enter Try.func3, Try.ntmps3
    go_wp2_with fail
    refine (awake_any _).mono ?_
    rintro e w5 ⟨rfl, hb5⟩
    go_wp2
    go_ret
    exact ⟨rfl, hb5⟩
  · have hbig' : (xs.length : Int) ≤ 2000 := by omega
    have HN := hide (show xs.length ≤ 2000 by omega)
    have HB := hide h
    have hq0 : -1099511627776 < n.tmod 1099511627776 := by
      have := Int.lt_tmod_of_pos n (show (0 : Int) < 1099511627776 by omega); omega
    have hq1 : n.tmod 1099511627776 < 1099511627776 := Int.tmod_lt_of_pos n (by omega)
    have HQ0 := hide hq0
    have HQ1 := hide hq1
    clear h w0 hq0 hq1 hbig
    go_enter Try.func3, Try.ntmps3
    go_wp2_with fail
    refine (Own_any w bv0 xs 71 HB.out (by have := HN.out; omega)).mono ?_
    rintro e w1 ⟨rfl, ho1, hb1⟩
    have hcut := owns_cut ho1 (n := xs.length) (by omega)
    rw [List.take_left' (bv_length xs)] at hcut
    have hrow : Row w1 (.slice (some ⟨w.heap.size, 0, none⟩) xs.length (xs.length + 3)) xs := Own.row (base := w.heap.size) ⟨hcut, HB.out.bys⟩
    have HO1 := hide ho1
    have HI1 := hide hrow
    have HB1 := hide (HB.out.below hb1)
    clear ho1 hcut hrow
    go_wp2_with fail
    refine (Body_any w1 _ xs HI1.out).mono ?_
    rintro e w2 ⟨x, rfl, ho2, hb2⟩
    have HX2 := hide ho2
    go_wp2_with fail
    refine (RBody_any w2 _ xs (HB1.out.below hb2)).mono ?_
    rintro e w3 ⟨y, rfl, ho3, hb3⟩
    have HX3 := hide ho3
    have hb13 : Below w1.heap.size w1 w3 := hb2.trans (hb3.mono hb2.size)
    go_wp2_with fail
    refine (Scan_any w3 _ xs (HI1.out.below hb13) (by have := HN.out; omega)).mono ?_
    rintro e w4 ⟨l, us, bss, m, rfl, hv4, hw4, hs4, hb4⟩
    have HV4 := hide hv4
    have HW4 := hide hw4
    have HS4 := hide hs4
    have hb14 : Below w1.heap.size w1 w4 := hb13.trans (hb4.mono hb13.size)
    clear hv4 hw4 hs4
    go_wp2_with fail
    refine (RScan_any w4 _ xs (HB1.out.below hb14) (by have := HN.out; omega)).mono ?_
    rintro e w5 ⟨l2, us2, bss2, m2, rfl, hv5, hw5, hs5, hb5⟩
    obtain ⟨e1, e2⟩ := HS4.out.uniq hs5
    subst e1 e2
    have HV5 := hide hv5
    have HW5 := hide hw5
    have hb15 : Below w1.heap.size w1 w5 := hb14.trans (hb5.mono hb14.size)
    clear hv5 hw5 hs5 ho2 ho3
    obtain ⟨er, her⟩ : ∃ z, (bodyS xs).2 = z := ⟨_, rfl⟩
    rw [her]
    obtain ⟨cl, hcl⟩ : ∃ z, clean (xs.drop m) = z := ⟨_, rfl⟩
    rw [hcl]
    clear her hcl
    go_wp2_with fail
    generalize n.tmod 1099511627776 = q at *
    refine (awake_any w5).mono ?_
    rintro e w6 ⟨rfl, hb6⟩
    have hb16 : Below w1.heap.size w1 w6 := hb15.trans (hb6.mono hb15.size)
    have hb36 : Below w3.heap.size w3 w6 := (hb4.trans (hb5.mono hb4.size)).trans (hb6.mono (Nat.le_trans hb4.size hb5.size))
    have HX6 := hide ((HX2.out.kept hb3).kept hb36)
    have HY6 := hide (HX3.out.kept hb36)
    have HL6 := hide (show VRow w6 l bss from (VRow.below (⟨us, HV4.out.vals, HW4.out.rows⟩ : VRow w4 l bss) hb5).below hb6)
    have HM6 := hide (show VRow w6 l2 bss from VRow.below (⟨us2, HV5.out.vals, HW5.out.rows⟩ : VRow w5 l2 bss) hb6)
    have HD := hide (show ∀ z : List Int, decide (z = z) = true from fun z => by simp)
    clear hb2 hb3 hb4 hb5 hb6 hb36 hb13 hb14 hb15
    go_wp2_with fail
    refine (Bytes_any w6 x y _ _ HX6.out.row HY6.out.row).mono ?_
    rintro e w7 ⟨rfl, rfl⟩
    simp only [decide_true]
    go_wp2_with fail
    refine (Same2_any w7 l l2 bss bss HL6.out HM6.out).mono ?_
    rintro e w8 ⟨rfl, hst8⟩
    simp only [decide_true]
    have hb18 : Below w1.heap.size w1 w8 := hb16.trans ((hst8 _).mono hb16.size)
    have hq0 := HQ0.out
    have hq1 := HQ1.out
    go_wp2_with fail
    refine (Size_any w8 q (by omega)).mono ?_
    rintro e w9 ⟨rfl, rfl⟩
    go_wp2_with fail
    refine (Kept_any w9 w.heap.size w.heap.size bv0 xs 71 (by omega) (HB1.out.below hb18) (by have := HN.out; omega) (HO1.out.kept (row := none) ⟨hb18.os, hb18.tape, hb18.output, hb18.size, fun k hk _ => hb18.block k hk⟩ (Classical.em _))).mono ?_
    rintro e w10 ⟨rfl, hst10⟩
    have hBe : Below w.heap.size w w10 := (hb1.trans (hb18.mono hb1.size)).trans (hst10 _)
    go_wp2
    go_ret
    exact ⟨rfl, hBe⟩
end Go.Proofs.Ytnaklimfbddaaaa
