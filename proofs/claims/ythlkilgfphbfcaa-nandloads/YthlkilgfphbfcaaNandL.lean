/-
  Package nand's Load: plain matter; a page that is loaded; the calls of a nil chip.
-/
import Derived.Test.YthlkilgfphbfcaaKeep5
import Derived.Test.YthlkilgfphbfcaaNandB
import Derived.Test.YthlkilgfphbfcaaNandC
import Derived.Deep.RegionHeld3
import Derived.StillTailTactics
import Derived.Deep.RegionWith
namespace Go.Proofs.Ythlkilgfphbfcaa
open Go.RowKit
set_option linter.unusedVariables false
set_option maxRecDepth 100000

/-- Are all bytes 255? -/
def ff (xs : List Int) : Bool := xs.all (fun x => x == 255)
theorem ff_rep {xs : List Int} {n : Nat} (h : ff xs = true) (hl : xs.length = n) : xs = List.replicate n 255 := by
  subst hl
  unfold ff at h
  rw [List.all_eq_true] at h
  exact List.eq_replicate_iff.2 ⟨rfl, fun x hx => by simpa using h x hx⟩
theorem take_one5 {xs : List Int} {k : Nat} (h : k < xs.length) : xs.take (k + 1) = xs.take k ++ [xs.getD k 0] := by
  rw [List.take_succ_eq_append_getElem h]; simp [List.getD, List.getElem?_eq_getElem h]
theorem isErased5_any (w : World) (b : Value) (xs : List Int) (h : Row w b xs) :
    Calls Try.prog 67 #[b] w fun e w' => e = .returned (.bool (ff xs)) ∧ w' = w := by
  have hlm := h.len
  unfold maxLen at hlm
  by_cases h0 : xs = []
  · subst h0
    obtain ⟨ao, cap, rfl⟩ := h.of_len
    simp only [List.length_nil]
    go_enter Try.func67, Try.ntmps67
    go_wp2
    refine wp_loop_rounds 1 ?_
    rw [rounds_succ]
    go_wp2
    go_ret
    exact ⟨rfl, rfl⟩
  · obtain ⟨bl, off, cap, rfl, hlc, hbl, hc⟩ := h.at h0
    generalize hL : xs.length = len at *
    have HL := hide hL
    clear hL h
    go_enter Try.func67, Try.ntmps67
    go_wp2
    go_loop [7] (fun i => ∃ k : Nat, k ≤ len ∧ i = .int .i64 k ∧ ff (xs.take k) = true) (fun i => len - (intOf i).toNat)
    case atStart => exact ⟨0, Nat.zero_le _, rfl, rfl⟩
    case round =>
      obtain ⟨k, hk, rfl, hcl⟩ := hrel
      have HC := hide hcl
      clear hcl
      by_cases hlt : k < len
      · have hck := hc k hlt
        obtain ⟨x, hx⟩ : ∃ x, x = xs.getD k 0 := ⟨_, rfl⟩
        rw [← hx] at hck
        have HX := hide hx
        have hk' : k < xs.length := by rw [HL.out]; exact hlt
        have HK := hide hk'
        clear hx hc hk'
        by_cases he : x = 255
        · subst he
          go_wp2
          go_round
          case rel => exact ⟨k + 1, by omega, by go_num, by rw [take_one5 HK.out, ff, List.all_append, ← HX.out]; simpa [ff] using HC.out⟩
          case measure => simp [intOf]; omega
        · have hne : (x != 255) = true := by simpa using he
          have hd : ff xs = false := by
            unfold ff
            rw [List.all_eq_false]
            refine ⟨x, ?_, by simpa using he⟩
            rw [HX.out]
            simp [List.getD, List.getElem?_eq_getElem HK.out]
          have HD := hide hd
          clear hd he
          go_wp2
          go_ret
          exact ⟨ret_one (congrArg Value.bool HD.out.symm), rfl⟩
      · obtain rfl : k = len := by omega
        have hd : ff xs = true := by
          have := HC.out
          rwa [List.take_of_length_le (by rw [HL.out]; exact Nat.le_refl _)] at this
        have HD := hide hd
        clear hd
        go_wp2
        go_ret
        exact ⟨ret_one (congrArg Value.bool HD.out.symm), rfl⟩

/-! ### a nil chip -/
theorem Read5_nil (w : World) (b p : Int) : Calls Try.prog 27 #[.pointer none, .int .i64 b, .int .i64 p] w fun e w' => e = .returned (.tuple #[.slice none 0 0, .slice none 0 0, .int .i64 2]) ∧ w' = w := by
  go_enter Try.func27, Try.ntmps27
  go_wp2
  go_ret3
  exact ⟨rfl, rfl⟩
theorem Program5_nil (w : World) (b p : Int) (d s : Value) : Calls Try.prog 24 #[.pointer none, .int .i64 b, .int .i64 p, d, s] w fun e w' => e = .returned (.int .i64 2) ∧ w' = w := by
  go_enter Try.func24, Try.ntmps24
  go_wp2
  go_ret
  exact ⟨rfl, rfl⟩
theorem Erase5_nil (w : World) (b : Int) : Calls Try.prog 16 #[.pointer none, .int .i64 b] w fun e w' => e = .returned (.int .i64 2) ∧ w' = w := by
  go_enter Try.func16, Try.ntmps16
  go_wp2
  go_ret
  exact ⟨rfl, rfl⟩
theorem Load5_nil (w : World) (d : Value) : Calls Try.prog 35 #[.pointer none, d] w fun e w' => e = .returned (.int .i64 2) ∧ w' = w := by
  go_enter Try.func35, Try.ntmps35
  go_wp2
  go_ret
  exact ⟨rfl, rfl⟩
theorem Programmed5_nil (w : World) (b : Int) : Calls Try.prog 30 #[.pointer none, .int .i64 b] w fun e w' => e = .returned (.int .i64 0) ∧ w' = w := by
  go_enter Try.func30, Try.ntmps30
  go_wp2
  go_ret
  exact ⟨rfl, rfl⟩
theorem Erases5_nil (w : World) (b : Int) : Calls Try.prog 32 #[.pointer none, .int .i64 b] w fun e w' => e = .returned (.int .i64 0) ∧ w' = w := by
  go_enter Try.func32, Try.ntmps32
  go_wp2
  go_ret
  exact ⟨rfl, rfl⟩
theorem Power5_nil (w : World) : Calls Try.prog 14 #[.pointer none] w fun e w' => e = .returned (.pointer none) ∧ w' = w := by
  go_enter Try.func14, Try.ntmps14
  go_wp2
  go_ret
  exact ⟨rfl, rfl⟩
theorem Geometry5_nil (w : World) : Calls Try.prog 13 #[.pointer none] w fun e w' => e = .returned (.agg (gcells 0 0 0 0 0)) ∧ Below w.heap.size w w' := by
  unfold gcells
  go_enter Try.func13, Try.ntmps13
  go_wp2
  refine bodyPost_ret (results_cell_row rfl _ _ w.heap.size 23 _ (0, 0) _ rfl (Blk.new w _ _) Try.underlying23 rfl (by kernel_rfl)) rfl ⟨rfl, ?_⟩
  exact (Below.refl _ _).alloc (Nat.le_refl _) _

/-! ### a page that is loaded -/
theorem load_fin {w w1 w41 w42 : World} {mb nb i k m g ucap : Nat} {f : Nat → Nat → Option Value} {nx xs : List Int} (hsz : w1.heap.size = w.heap.size + 1) (hb1 : Below w.heap.size w w1) (hou : Own w1.drew.heap.size w41 (.slice (some ⟨g, 0, none⟩) xs.length ucap) xs) (hg : PgMap w42 mb (m + 1) (put2 f i k (some (.slice (some ⟨g, 0, none⟩) xs.length ucap)))) (hgr : w41.grownBy w42 (some mb))
    (hn : Blk w42 nb (iv .i64 nx).toArray 3) (hO : Only [mb] w1 w42) (hml : mb < w.heap.size) (hnl : nb < w.heap.size) (hne : mb ≠ nb) :
    Own w.heap.size (w42.drew.setCell ⟨nb, i, none⟩ (.int .i64 ((k : Int) + 1))) (.slice (some ⟨g, 0, none⟩) xs.length ucap) xs ∧ PgMap (w42.drew.setCell ⟨nb, i, none⟩ (.int .i64 ((k : Int) + 1))) mb (m + 1) (put2 f i k (some (.slice (some ⟨g, 0, none⟩) xs.length ucap))) ∧ Blk (w42.drew.setCell ⟨nb, i, none⟩ (.int .i64 ((k : Int) + 1))) nb (iv .i64 (nx.set i ((k : Int) + 1))).toArray 3 ∧ Only [mb, nb] w (w42.drew.setCell ⟨nb, i, none⟩ (.int .i64 ((k : Int) + 1))) := by
  have hsd : w1.drew.heap.size = w1.heap.size := rfl
  have hgb := hou.block g rfl
  have hO1 : Only [nb] w42 (w42.drew.setCell ⟨nb, i, none⟩ (.int .i64 ((k : Int) + 1))) := ((only_grown (grown_drew w42 none) (by simp) : Only [] w42 w42.drew).wide (by simp)).trans (only_setCell _ _ _ _ _ (by simp))
  refine ⟨?_, hg.only hO1 (by simp; omega), (hn.below (Below.refl _ _).drew hn.lt).setI5 i _, ?_⟩
  · have h1 : Own w1.drew.heap.size w42 (.slice (some ⟨g, 0, none⟩) xs.length ucap) xs := hou.only (only_grown hgr (l := [mb]) (fun j e => by cases e; simp)) (fun j e => by cases e; simp; omega)
    exact (h1.only hO1 (fun j e => by cases e; simp; omega)).mono (by omega)
  · exact (((only_below (l := []) hb1).wide (by simp) : Only [mb, nb] w w1).trans (hO.wide (by simp))).trans (hO1.wide (by simp))
set_option maxHeartbeats 2000000 in
theorem loadPage_any (w : World) (c mb nb C E : Nat) (cs : Array Value) (f : Nat → Nat → Option Value) (m : Nat) (nx : List Int) (v : Value) (xs : List Int) (i k : Nat)
    (hb : Blk w c cs 73) (h6 : cs[6]? = some (.map (some mb))) (h7 : cs[7]? = some (.slice (some ⟨nb, 0, none⟩) C C)) (hm : PgMap w mb m f) (hn : Blk w nb (iv .i64 nx).toArray 3) (hnl : nx.length = C) (hi : i < C) (hk : k < 1000) (hC : C < 1000) (hmm : m < 100000)
    (hne : c ≠ mb ∧ c ≠ nb ∧ mb ≠ nb) (bl off cap : Nat) (hv : v = .slice (some ⟨bl, off, none⟩) xs.length cap) (hr : Row w v xs) (hxl : xs.length < 1000000) :
    Calls Try.prog 56 #[.pointer (some ⟨c, 0, none⟩), .agg #[.int .i64 i, .int .i64 k], v] w fun e w' => e = .returned (.tuple #[]) ∧
      ((ff xs = true ∧ Only [] w w') ∨ (ff xs = false ∧ ∃ u g ucap, u = .slice (some ⟨g, 0, none⟩) xs.length ucap ∧ w.heap.size ≤ g ∧ Own w.heap.size w' u xs ∧ PgMap w' mb (m + 1) (put2 f i k (some u)) ∧ Blk w' nb (iv .i64 (nx.set i ((k : Int) + 1))).toArray 3 ∧ Only [mb, nb] w w')) := by
  subst hv
  have he := isErased5_any (w.alloc (.cells #[.int .i64 i, .int .i64 k] 86)) _ xs (hr.below ((Below.refl _ _).alloc (Nat.le_refl _) _))
  by_cases hff : ff xs = true
  · rw [hff] at he
    go_enter Try.func56, Try.ntmps56
    go_wp2_with fail
    refine he.mono ?_
    rintro e w1 ⟨rfl, rfl⟩
    go_wp2
    (try simp only [Exit.inBlock, Exit.then])
    refine bodyPost_ret (results_none rfl _ _ _) rfl ?_
    exact ⟨rfl, .inl ⟨hff, only_grown (World.grownBy_alloc _ _ none) (by simp)⟩⟩
  · have hff' : ff xs = false := by simpa using hff
    rw [hff'] at he
    have hcl := hb.lt
    have hml := hm.lt
    have hnlt := hn.lt
    have hbA : Below w.heap.size w (w.alloc (.cells #[.int .i64 i, .int .i64 k] 86)) := (Below.refl _ _).alloc (Nat.le_refl _) _
    have hP := Blk.new w #[.int .i64 i, .int .i64 k] 86
    have hsA : (w.alloc (.cells #[.int .i64 i, .int .i64 k] 86)).heap.size = w.heap.size + 1 := by simp
    generalize hwa : w.alloc (.cells #[.int .i64 i, .int .i64 k] 86) = wa at *
    have HWA := hide hwa
    have hbD : Below wa.heap.size wa wa.drew := (Below.refl _ _).drew
    have hb2 := (hb.below hbA hcl).below hbD (by omega)
    have hn2 := (hn.below hbA hnlt).below hbD (by omega)
    have hP2 := hP.below hbD (by omega)
    have HR2 := hide ((hr.below hbA).below hbD)
    have HM2 := hide ((hm.only (x := []) (only_below hbA) (by simp)).only (x := []) (only_below hbD) (by simp))
    have c6 := (hb2.cell 6).trans h6
    have p0 : wa.drew.cell? ⟨w.heap.size, 0, none⟩ = some (.int .i64 i) := (hP2.cell 0).trans rfl
    have p1 : wa.drew.cell? ⟨w.heap.size, 1, none⟩ = some (.int .i64 k) := (hP2.cell 1).trans rfl
    have HB2 := hide hb2
    have HN2 := hide hn2
    have HP2 := hide hP2
    have HB0 := hide hb
    have HBA := hide hbA
    have hsD : wa.drew.heap.size = wa.heap.size := rfl
    clear hr hm hb hn hP hwa hb2 hn2 hP2 hbA hbD
    go_enter Try.func56, Try.ntmps56
    go_wp2_with fail
    rw [HWA.out]
    refine he.mono ?_
    rintro e w1 ⟨rfl, rfl⟩
    go_wp2_with fail
    go_region_with (go_at_call 55; refine (Clone5_any _ bl off _ cap xs HR2.out hxl).mono ?_; rintro e w41 ⟨u, rfl, hou, hB41⟩; obtain ⟨w42, hrun, hg42, hgr42⟩ := (HM2.out.only (x := []) (only_below hB41) (by simp)).put (by omega) i k (by omega) (by omega) u; have d6 : w41.cell? ⟨c, 6, none⟩ = some (.map (some mb)) := (hB41.cell (show c < w1.drew.heap.size by omega)).trans c6; have q0 : w41.cell? ⟨w.heap.size, 0, none⟩ = some (.int .i64 i) := (hB41.cell (show w.heap.size < w1.drew.heap.size by omega)).trans p0; have q1 : w41.cell? ⟨w.heap.size, 1, none⟩ = some (.int .i64 k) := (hB41.cell (show w.heap.size < w1.drew.heap.size by omega)).trans p1)
    all_goals
      have hO42 : Only [mb] w1 w42 := (((only_below (l := []) ((Below.refl w1.heap.size w1).drew)).trans (only_below hB41)).wide (by simp)).trans (only_grown hgr42 (fun j e => by cases e; simp))
      have e7 : w42.cell? ⟨c, 7, none⟩ = some (.slice (some ⟨nb, 0, none⟩) C C) := (((HB2.out.below hB41 (by omega)).kept hgr42 (by simp; omega)).cell 7).trans h7
      have hP42 := (HP2.out.below hB41 (by omega)).kept hgr42 (by simp; omega)
      have r0 : w42.cell? ⟨w.heap.size, 0, none⟩ = some (.int .i64 i) := (hP42.cell 0).trans rfl
      have r1 : w42.cell? ⟨w.heap.size, 1, none⟩ = some (.int .i64 k) := (hP42.cell 1).trans rfl
      have hN42 := (HN2.out.below hB41 (by omega)).kept hgr42 (by simp; omega)
      have rn : w42.cell? ⟨nb, i, none⟩ = some (.int .i64 (nx.getD i 0)) := by rw [hN42.cell i, List.getElem?_toArray, iv_at (by omega)]
      have rf := hN42.frozen i
      have HON := hide hN42
      have HOU := hide hou
      have HG42 := hide hg42
      have HGR := hide hgr42
      have hi' : (i : Int) < C := by omega
      clear d6 q0 q1 c6 p0 p1 hrun hP42 hN42 hou hg42 hgr42
      generalize nx.getD i 0 = y at *
      go_wp2_with fail
      go_region
      all_goals
        go_wp2
        go_end0
        refine ⟨rfl, .inr ⟨hff', ?_⟩⟩
        have hx0 : 0 < xs.length := by
          rcases Nat.eq_zero_or_pos xs.length with h0 | h0
          · rw [List.eq_nil_of_length_eq_zero h0] at hff'
            cases hff'
          · exact h0
        obtain ⟨g, ucap, rfl, hg0, _, _⟩ := HOU.out.form hx0
        exact ⟨_, g, ucap, rfl, by omega, load_fin hsA HBA.out HOU.out HG42.out HGR.out HON.out hO42 hml hnlt hne.2.2⟩
end Go.Proofs.Ythlkilgfphbfcaa
