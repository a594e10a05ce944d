/-
  Inodes: Stat.
-/
import Derived.Deep.RegionWith
import Derived.Deep.RegionHeld3
import Derived.Deep.MidRow
import Derived.Lib.SlBuf
import Derived.Deep.CutBlock
import Derived.Deep.DeepCutAuto
import Derived.Test.YtlfodhffecadoaaInoC
import Derived.Test.YtlfodhffecadoaaRunsC
import Derived.Test.YtlfodhffecadoaaEntM
import Derived.Test.YtlfodhffecadoaaAnyH
namespace Go.Proofs.Ytlfodhffecadoaa
open Go.RowKit
set_option linter.unusedVariables false
set_option maxRecDepth 100000

/-- What the last region of Stat keeps. -/
def StS (w0 : World) (B : Nat) (a b c : Int) (rv : Value) (w' : World) : Prop :=
  (w'.cell? ⟨B, 0, none⟩ = some (.int .i64 a) ∧ w'.cell? ⟨B, 1, none⟩ = some (.int .i64 b) ∧ w'.cell? ⟨B, 2, none⟩ = some (.int .i64 c) ∧ w'.cell? ⟨B, 6, none⟩ = some rv) ∧ Below w0.heap.size w0 w'
theorem StS.step {w0 : World} {B : Nat} {a b c : Int} {rv : Value} {w w' : World} (hb : Below w.heap.size w w') (h : StS w0 B a b c rv w) : StS w0 B a b c rv w' :=
  ⟨⟨kl_cell hb h.1.1, kl_cell hb h.1.2.1, kl_cell hb h.1.2.2.1, kl_cell hb h.1.2.2.2⟩, kl_step hb h.2⟩
theorem StS.over {w0 : World} {B R : Nat} {a b c : Int} {rv : Value} {w : World} (h : StS w0 B a b c rv w) (hne : B ≠ R) (hR : w0.heap.size ≤ R) (vs : List Value) : StS w0 B a b c rv (w.setCells R 0 vs) := by
  refine ⟨⟨?_, ?_, ?_, ?_⟩, Lib.below_setCells R hR vs 0 h.2⟩
  · rw [World.cell?_setCells_out R vs 0 w ⟨B, 0, none⟩ (fun e => absurd e hne)]; exact h.1.1
  · rw [World.cell?_setCells_out R vs 0 w ⟨B, 1, none⟩ (fun e => absurd e hne)]; exact h.1.2.1
  · rw [World.cell?_setCells_out R vs 0 w ⟨B, 2, none⟩ (fun e => absurd e hne)]; exact h.1.2.2.1
  · rw [World.cell?_setCells_out R vs 0 w ⟨B, 6, none⟩ (fun e => absurd e hne)]; exact h.1.2.2.2
theorem blk_over5 {V : World} {B : Nat} {t : TypeId} {z0 z1 z2 z3 z4 : Value} (h : Blk V B #[z0, z1, z2, z3, z4] t) (v0 v1 v2 v3 v4 : Value) :
    Blk (V.setCells B 0 [v0, v1, v2, v3, v4]) B #[v0, v1, v2, v3, v4] t := by
  have := ((((h.set 0 v0).set 1 v1).set 2 v2).set 3 v3).set 4 v4
  simpa [World.setCells] using this
theorem Blk.there {w : World} {b : Nat} {cs : Array Value} {t : TypeId} (h : Blk w b cs t) : w.there b 0 cs.size := fun j hj => by
  rw [Nat.zero_add, h.cell, h.frozen, Array.getElem?_eq_getElem hj]
  exact ⟨rfl, rfl⟩
/-- Answers a stat, and nothing elder has turned. -/
def SaysT (a b c d n : Int) (w : World) (e : Ending) (w' : World) : Prop :=
  e = .returned (.agg #[.int .i64 a, .int .i64 b, .int .i64 c, .int .i64 d, .int .i64 n]) ∧ Below w.heap.size w w'

set_option maxHeartbeats 4000000 in
theorem Stat_dir (w : World) (no kind links size : Int) (t : ByteArray) (ev rv : Value) (es : List En) (rs : List Rn) (he : ERow w ev es) (hr : RRow w rv rs) (k2 : kind = 2) :
    Calls Try.prog 13 #[.agg #[.int .i64 no, .int .i64 kind, .int .i64 links, .int .i64 size, .string t, ev, rv]] w
      (SaysT no kind links (statSize ⟨no, kind, links, size, t, es, rs⟩) (pagesOf ⟨no, kind, links, size, t, es, rs⟩) w) := by
  unfold SaysT
  have K2 := hide k2
  clear k2
  obtain ⟨w0, hw0⟩ : ∃ W, W = w.alloc (.cells #[.int .i64 no, .int .i64 kind, .int .i64 links, .int .i64 size, .string t, ev, rv] 25) := ⟨_, rfl⟩
  have hb0 : Below w.heap.size w w0 := by rw [hw0]; exact kl_alloc w _
  have hB0 : Blk w0 w.heap.size #[.int .i64 no, .int .i64 kind, .int .i64 links, .int .i64 size, .string t, ev, rv] 25 := by rw [hw0]; exact Blk.new w _ _
  obtain ⟨V, hV⟩ : ∃ W, W = w0.alloc (.cells #[.int .i64 0, .int .i64 0, .int .i64 0, .int .i64 0, .int .i64 0] 31) := ⟨_, rfl⟩
  have hB1 : Below w0.heap.size w0 V := by rw [hV]; exact kl_alloc w0 _
  have hsz : w0.heap.size = w.heap.size + 1 := by rw [hw0]; simp
  have hR : Blk V (w.heap.size + 1) #[.int .i64 0, .int .i64 0, .int .i64 0, .int .i64 0, .int .i64 0] 31 := by rw [hV, ← hsz]; exact Blk.new w0 _ _
  have hBV := kl_blk hB1 hB0
  have hbV := kl_step hB1 hb0
  have hlr := he.lenRun
  have hlm := he.len
  have hlt := hB0.lt
  have HRR := hide hr
  have HP : Hid (pagesOf ⟨no, kind, links, size, t, es, rs⟩ = if rightS rs then cntS rs else 0) := hide rfl
  have HZ : Hid (statSize ⟨no, kind, links, size, t, es, rs⟩ = if kind = 2 then (es.length : Int) else size) := hide rfl
  have HCN := hide (Count_any · rv rs)
  generalize pagesOf ⟨no, kind, links, size, t, es, rs⟩ = pg at *
  generalize statSize ⟨no, kind, links, size, t, es, rs⟩ = sz at *
  generalize (if rightS rs = true then cntS rs else 0) = pq at *
  obtain rfl := HP.out
  clear HP
  generalize es.length = len at *
  have Hw0 := hide hw0
  have HV := hide hV
  have c0 : V.cell? ⟨w.heap.size, 0, none⟩ = some (.int .i64 no) := hBV.cell 0
  have c1 : V.cell? ⟨w.heap.size, 1, none⟩ = some (.int .i64 kind) := hBV.cell 1
  have c2 : V.cell? ⟨w.heap.size, 2, none⟩ = some (.int .i64 links) := hBV.cell 2
  have c3 : V.cell? ⟨w.heap.size, 3, none⟩ = some (.int .i64 size) := hBV.cell 3
  have c5 : V.cell? ⟨w.heap.size, 5, none⟩ = some ev := hBV.cell 5
  have c6 : V.cell? ⟨w.heap.size, 6, none⟩ = some rv := hBV.cell 6
  have HS : Hid (StS w w.heap.size no kind links rv V) := hide ⟨⟨c0, c1, c2, c6⟩, hbV⟩
  have HRV := hide hR
  clear hsz hlt hb0 hB0 hw0 hV hB1 hR hBV hbV he hr
  go_enter Try.func13, Try.ntmps13
  go_upto_region 1 with fail
  rw [← Hw0.out, ← HV.out]
  clear Hw0 HV
  generalize hB : w.heap.size = B at *
  have HQ := hide hB
  clear hB
  have k2' : (kind == 2) = true := by simpa using K2.out
  have HF := hide (HZ.out.trans (if_pos K2.out))
  obtain ⟨R, hR⟩ : ∃ R, R = B + 1 := ⟨_, rfl⟩
  rw [← hR] at HRV ⊢
  have HRB := hide hR
  clear hR
  have HCV := hide (fun (w8 : World) (h : StS w B no kind links rv w8) => HCN.out w8 (HRR.out.below h.2))
  go_upto_region 4 with fail
  clear c3 c5 hlr hlm
  go_wp2_with fail
  refine wp_region_held_drew (S := fun w' => (w'.cell? ⟨B, 0, none⟩ = some (.int .i64 no) ∧ w'.cell? ⟨B, 1, none⟩ = some (.int .i64 kind) ∧ w'.cell? ⟨B, 2, none⟩ = some (.int .i64 links) ∧ w'.cell? ⟨B, 6, none⟩ = some rv) ∧ Below w.heap.size w w') (by kernel_rfl) (StS.step (kl_drew _) HS.out) (fun hHeld => ?_)
  refine any_yes 0 (.pointer (some ⟨B, 0, none⟩)) rfl (by kernel_rfl) (by kernel_rfl) (by kernel_rfl) (fun _ _ _ h => h) (by rfl) (by intro w hSw; obtain ⟨⟨g0, g1, g2, g6⟩, g9⟩ := hSw; go_simp) (by assumption) ?_
  try simp only [Act.put, List.setIfInBounds_toArray, List.set_cons_zero, List.set_cons_succ]
  refine any_yes 1 (.int .i64 no) rfl (by kernel_rfl) (by kernel_rfl) (by kernel_rfl) (fun _ _ _ h => h) (by rfl) (by intro w hSw; obtain ⟨⟨g0, g1, g2, g6⟩, g9⟩ := hSw; go_simp) (by assumption) ?_
  try simp only [Act.put, List.setIfInBounds_toArray, List.set_cons_zero, List.set_cons_succ]
  refine any_yes 2 (.pointer (some ⟨B, 1, none⟩)) rfl (by kernel_rfl) (by kernel_rfl) (by kernel_rfl) (fun _ _ _ h => h) (by rfl) (by intro w hSw; obtain ⟨⟨g0, g1, g2, g6⟩, g9⟩ := hSw; go_simp) (by assumption) ?_
  try simp only [Act.put, List.setIfInBounds_toArray, List.set_cons_zero, List.set_cons_succ]
  refine any_yes 3 (.int .i64 kind) rfl (by kernel_rfl) (by kernel_rfl) (by kernel_rfl) (fun _ _ _ h => h) (by rfl) (by intro w hSw; obtain ⟨⟨g0, g1, g2, g6⟩, g9⟩ := hSw; go_simp) (by assumption) ?_
  try simp only [Act.put, List.setIfInBounds_toArray, List.set_cons_zero, List.set_cons_succ]
  refine any_yes 4 (.pointer (some ⟨B, 2, none⟩)) rfl (by kernel_rfl) (by kernel_rfl) (by kernel_rfl) (fun _ _ _ h => h) (by rfl) (by intro w hSw; obtain ⟨⟨g0, g1, g2, g6⟩, g9⟩ := hSw; go_simp) (by assumption) ?_
  try simp only [Act.put, List.setIfInBounds_toArray, List.set_cons_zero, List.set_cons_succ]
  refine any_yes 5 (.int .i64 links) rfl (by kernel_rfl) (by kernel_rfl) (by kernel_rfl) (fun _ _ _ h => h) (by rfl) (by intro w hSw; obtain ⟨⟨g0, g1, g2, g6⟩, g9⟩ := hSw; go_simp) (by assumption) ?_
  try simp only [Act.put, List.setIfInBounds_toArray, List.set_cons_zero, List.set_cons_succ]
  refine any_yes 6 (.int .i64 (len : Int)) rfl (by kernel_rfl) (by kernel_rfl) (by kernel_rfl) (fun _ _ _ h => h) (by rfl) (by intro w hSw; obtain ⟨⟨g0, g1, g2, g6⟩, g9⟩ := hSw; go_simp) (by assumption) ?_
  try simp only [Act.put, List.setIfInBounds_toArray, List.set_cons_zero, List.set_cons_succ]
  refine any_yes 7 (.pointer (some ⟨B, 6, none⟩)) rfl (by kernel_rfl) (by kernel_rfl) (by kernel_rfl) (fun _ _ _ h => h) (by rfl) (by intro w hSw; obtain ⟨⟨g0, g1, g2, g6⟩, g9⟩ := hSw; go_simp) (by assumption) ?_
  try simp only [Act.put, List.setIfInBounds_toArray, List.set_cons_zero, List.set_cons_succ]
  refine any_yes 8 rv rfl (by kernel_rfl) (by kernel_rfl) (by kernel_rfl) (fun _ _ _ h => h) (by rfl) (by intro w hSw; obtain ⟨⟨g0, g1, g2, g6⟩, g9⟩ := hSw; go_simp) (by assumption) ?_
  try simp only [Act.put, List.setIfInBounds_toArray, List.set_cons_zero, List.set_cons_succ]
  refine any_one 9 (by kernel_rfl) rfl (by rfl) (fun K' hK => ?_)
  go_simp
  refine (HCV.out _ hHeld).mono ?_
  rintro x w9 ⟨rfl, hb9⟩
  go_simp
  refine hK.out _ _ (StS.step hb9 hHeld) (fun hHeld2 => ?_)
  have HR9 := hide (kl_blk hb9 (kl_blk (kl_drew V) HRV.out))
  clear hK K' hb9
  try simp only [Act.put, List.setIfInBounds_toArray, List.set_cons_zero, List.set_cons_succ]
  refine any_yes 10 (.agg #[.int .i64 no, .int .i64 kind, .int .i64 links, .int .i64 (len : Int), .int .i64 pg]) rfl (by kernel_rfl) (by kernel_rfl) (by kernel_rfl) (fun _ _ _ h => h) (by rfl) (by intro w hSw; obtain ⟨⟨g0, g1, g2, g6⟩, g9⟩ := hSw; go_simp) (by assumption) ?_
  try simp only [Act.put, List.setIfInBounds_toArray, List.set_cons_zero, List.set_cons_succ]
  refine any_one 11 (by kernel_rfl) rfl (by rfl) (fun K' hK => ?_)
  refine wp_store_mid 31 _ _ rfl R 0 #[.int .i64 no, .int .i64 kind, .int .i64 links, .int .i64 (len : Int), .int .i64 pg] rfl rfl HR9.out.there (by kernel_rfl) (by simp [Value.oneCell']) ?_
  refine hK.out _ _ (StS.over hHeld2 (by rw [HRB.out]; omega) (by rw [HRB.out, ← HQ.out]; omega) _) (fun hHeld3 => ?_)
  clear hK K'
  refine wpAnyH_done (by kernel_rfl) ?_ _
  go_wp2
  refine bodyPost_ret (results_cell_row rfl _ _ R 31 _ (0, 0) _ rfl (blk_over5 HR9.out _ _ _ _ _) Try.underlying31 rfl (by kernel_rfl)) rfl ⟨by rw [HF.out], hHeld3.2⟩

set_option maxHeartbeats 4000000 in
theorem Stat_else (w : World) (no kind links size : Int) (t : ByteArray) (ev rv : Value) (es : List En) (rs : List Rn) (he : ERow w ev es) (hr : RRow w rv rs) (k2 : kind ≠ 2) :
    Calls Try.prog 13 #[.agg #[.int .i64 no, .int .i64 kind, .int .i64 links, .int .i64 size, .string t, ev, rv]] w
      (SaysT no kind links (statSize ⟨no, kind, links, size, t, es, rs⟩) (pagesOf ⟨no, kind, links, size, t, es, rs⟩) w) := by
  unfold SaysT
  have K2 := hide k2
  clear k2
  obtain ⟨w0, hw0⟩ : ∃ W, W = w.alloc (.cells #[.int .i64 no, .int .i64 kind, .int .i64 links, .int .i64 size, .string t, ev, rv] 25) := ⟨_, rfl⟩
  have hb0 : Below w.heap.size w w0 := by rw [hw0]; exact kl_alloc w _
  have hB0 : Blk w0 w.heap.size #[.int .i64 no, .int .i64 kind, .int .i64 links, .int .i64 size, .string t, ev, rv] 25 := by rw [hw0]; exact Blk.new w _ _
  obtain ⟨V, hV⟩ : ∃ W, W = w0.alloc (.cells #[.int .i64 0, .int .i64 0, .int .i64 0, .int .i64 0, .int .i64 0] 31) := ⟨_, rfl⟩
  have hB1 : Below w0.heap.size w0 V := by rw [hV]; exact kl_alloc w0 _
  have hsz : w0.heap.size = w.heap.size + 1 := by rw [hw0]; simp
  have hR : Blk V (w.heap.size + 1) #[.int .i64 0, .int .i64 0, .int .i64 0, .int .i64 0, .int .i64 0] 31 := by rw [hV, ← hsz]; exact Blk.new w0 _ _
  have hBV := kl_blk hB1 hB0
  have hbV := kl_step hB1 hb0
  have hlr := he.lenRun
  have hlm := he.len
  have hlt := hB0.lt
  have HRR := hide hr
  have HP : Hid (pagesOf ⟨no, kind, links, size, t, es, rs⟩ = if rightS rs then cntS rs else 0) := hide rfl
  have HZ : Hid (statSize ⟨no, kind, links, size, t, es, rs⟩ = if kind = 2 then (es.length : Int) else size) := hide rfl
  have HCN := hide (Count_any · rv rs)
  generalize pagesOf ⟨no, kind, links, size, t, es, rs⟩ = pg at *
  generalize statSize ⟨no, kind, links, size, t, es, rs⟩ = sz at *
  generalize (if rightS rs = true then cntS rs else 0) = pq at *
  obtain rfl := HP.out
  clear HP
  generalize es.length = len at *
  have Hw0 := hide hw0
  have HV := hide hV
  have c0 : V.cell? ⟨w.heap.size, 0, none⟩ = some (.int .i64 no) := hBV.cell 0
  have c1 : V.cell? ⟨w.heap.size, 1, none⟩ = some (.int .i64 kind) := hBV.cell 1
  have c2 : V.cell? ⟨w.heap.size, 2, none⟩ = some (.int .i64 links) := hBV.cell 2
  have c3 : V.cell? ⟨w.heap.size, 3, none⟩ = some (.int .i64 size) := hBV.cell 3
  have c5 : V.cell? ⟨w.heap.size, 5, none⟩ = some ev := hBV.cell 5
  have c6 : V.cell? ⟨w.heap.size, 6, none⟩ = some rv := hBV.cell 6
  have HS : Hid (StS w w.heap.size no kind links rv V) := hide ⟨⟨c0, c1, c2, c6⟩, hbV⟩
  have HRV := hide hR
  clear hsz hlt hb0 hB0 hw0 hV hB1 hR hBV hbV he hr
  go_enter Try.func13, Try.ntmps13
  go_upto_region 1 with fail
  rw [← Hw0.out, ← HV.out]
  clear Hw0 HV
  generalize hB : w.heap.size = B at *
  have HQ := hide hB
  clear hB
  have k2' : (kind == 2) = false := by simpa using K2.out
  have HF := hide (HZ.out.trans (if_neg K2.out))
  obtain ⟨R, hR⟩ : ∃ R, R = B + 1 := ⟨_, rfl⟩
  rw [← hR] at HRV ⊢
  have HRB := hide hR
  clear hR
  have HCV := hide (fun (w8 : World) (h : StS w B no kind links rv w8) => HCN.out w8 (HRR.out.below h.2))
  go_upto_region 4 with fail
  clear c3 c5 hlr hlm
  go_wp2_with fail
  refine wp_region_held_drew (S := fun w' => (w'.cell? ⟨B, 0, none⟩ = some (.int .i64 no) ∧ w'.cell? ⟨B, 1, none⟩ = some (.int .i64 kind) ∧ w'.cell? ⟨B, 2, none⟩ = some (.int .i64 links) ∧ w'.cell? ⟨B, 6, none⟩ = some rv) ∧ Below w.heap.size w w') (by kernel_rfl) (StS.step (kl_drew _) HS.out) (fun hHeld => ?_)
  refine any_yes 0 (.pointer (some ⟨B, 0, none⟩)) rfl (by kernel_rfl) (by kernel_rfl) (by kernel_rfl) (fun _ _ _ h => h) (by rfl) (by intro w hSw; obtain ⟨⟨g0, g1, g2, g6⟩, g9⟩ := hSw; go_simp) (by assumption) ?_
  try simp only [Act.put, List.setIfInBounds_toArray, List.set_cons_zero, List.set_cons_succ]
  refine any_yes 1 (.int .i64 no) rfl (by kernel_rfl) (by kernel_rfl) (by kernel_rfl) (fun _ _ _ h => h) (by rfl) (by intro w hSw; obtain ⟨⟨g0, g1, g2, g6⟩, g9⟩ := hSw; go_simp) (by assumption) ?_
  try simp only [Act.put, List.setIfInBounds_toArray, List.set_cons_zero, List.set_cons_succ]
  refine any_yes 2 (.pointer (some ⟨B, 1, none⟩)) rfl (by kernel_rfl) (by kernel_rfl) (by kernel_rfl) (fun _ _ _ h => h) (by rfl) (by intro w hSw; obtain ⟨⟨g0, g1, g2, g6⟩, g9⟩ := hSw; go_simp) (by assumption) ?_
  try simp only [Act.put, List.setIfInBounds_toArray, List.set_cons_zero, List.set_cons_succ]
  refine any_yes 3 (.int .i64 kind) rfl (by kernel_rfl) (by kernel_rfl) (by kernel_rfl) (fun _ _ _ h => h) (by rfl) (by intro w hSw; obtain ⟨⟨g0, g1, g2, g6⟩, g9⟩ := hSw; go_simp) (by assumption) ?_
  try simp only [Act.put, List.setIfInBounds_toArray, List.set_cons_zero, List.set_cons_succ]
  refine any_yes 4 (.pointer (some ⟨B, 2, none⟩)) rfl (by kernel_rfl) (by kernel_rfl) (by kernel_rfl) (fun _ _ _ h => h) (by rfl) (by intro w hSw; obtain ⟨⟨g0, g1, g2, g6⟩, g9⟩ := hSw; go_simp) (by assumption) ?_
  try simp only [Act.put, List.setIfInBounds_toArray, List.set_cons_zero, List.set_cons_succ]
  refine any_yes 5 (.int .i64 links) rfl (by kernel_rfl) (by kernel_rfl) (by kernel_rfl) (fun _ _ _ h => h) (by rfl) (by intro w hSw; obtain ⟨⟨g0, g1, g2, g6⟩, g9⟩ := hSw; go_simp) (by assumption) ?_
  try simp only [Act.put, List.setIfInBounds_toArray, List.set_cons_zero, List.set_cons_succ]
  refine any_yes 6 (.int .i64 size) rfl (by kernel_rfl) (by kernel_rfl) (by kernel_rfl) (fun _ _ _ h => h) (by rfl) (by intro w hSw; obtain ⟨⟨g0, g1, g2, g6⟩, g9⟩ := hSw; go_simp) (by assumption) ?_
  try simp only [Act.put, List.setIfInBounds_toArray, List.set_cons_zero, List.set_cons_succ]
  refine any_yes 7 (.pointer (some ⟨B, 6, none⟩)) rfl (by kernel_rfl) (by kernel_rfl) (by kernel_rfl) (fun _ _ _ h => h) (by rfl) (by intro w hSw; obtain ⟨⟨g0, g1, g2, g6⟩, g9⟩ := hSw; go_simp) (by assumption) ?_
  try simp only [Act.put, List.setIfInBounds_toArray, List.set_cons_zero, List.set_cons_succ]
  refine any_yes 8 rv rfl (by kernel_rfl) (by kernel_rfl) (by kernel_rfl) (fun _ _ _ h => h) (by rfl) (by intro w hSw; obtain ⟨⟨g0, g1, g2, g6⟩, g9⟩ := hSw; go_simp) (by assumption) ?_
  try simp only [Act.put, List.setIfInBounds_toArray, List.set_cons_zero, List.set_cons_succ]
  refine any_one 9 (by kernel_rfl) rfl (by rfl) (fun K' hK => ?_)
  go_simp
  refine (HCV.out _ hHeld).mono ?_
  rintro x w9 ⟨rfl, hb9⟩
  go_simp
  refine hK.out _ _ (StS.step hb9 hHeld) (fun hHeld2 => ?_)
  have HR9 := hide (kl_blk hb9 (kl_blk (kl_drew V) HRV.out))
  clear hK K' hb9
  try simp only [Act.put, List.setIfInBounds_toArray, List.set_cons_zero, List.set_cons_succ]
  refine any_yes 10 (.agg #[.int .i64 no, .int .i64 kind, .int .i64 links, .int .i64 size, .int .i64 pg]) rfl (by kernel_rfl) (by kernel_rfl) (by kernel_rfl) (fun _ _ _ h => h) (by rfl) (by intro w hSw; obtain ⟨⟨g0, g1, g2, g6⟩, g9⟩ := hSw; go_simp) (by assumption) ?_
  try simp only [Act.put, List.setIfInBounds_toArray, List.set_cons_zero, List.set_cons_succ]
  refine any_one 11 (by kernel_rfl) rfl (by rfl) (fun K' hK => ?_)
  refine wp_store_mid 31 _ _ rfl R 0 #[.int .i64 no, .int .i64 kind, .int .i64 links, .int .i64 size, .int .i64 pg] rfl rfl HR9.out.there (by kernel_rfl) (by simp [Value.oneCell']) ?_
  refine hK.out _ _ (StS.over hHeld2 (by rw [HRB.out]; omega) (by rw [HRB.out, ← HQ.out]; omega) _) (fun hHeld3 => ?_)
  clear hK K'
  refine wpAnyH_done (by kernel_rfl) ?_ _
  go_wp2
  refine bodyPost_ret (results_cell_row rfl _ _ R 31 _ (0, 0) _ rfl (blk_over5 HR9.out _ _ _ _ _) Try.underlying31 rfl (by kernel_rfl)) rfl ⟨by rw [HF.out], hHeld3.2⟩


theorem Stat_any (w : World) (no kind links size : Int) (t : ByteArray) (ev rv : Value) (es : List En) (rs : List Rn) (he : ERow w ev es) (hr : RRow w rv rs) :
    Calls Try.prog 13 #[.agg #[.int .i64 no, .int .i64 kind, .int .i64 links, .int .i64 size, .string t, ev, rv]] w
      (SaysT no kind links (statSize ⟨no, kind, links, size, t, es, rs⟩) (pagesOf ⟨no, kind, links, size, t, es, rs⟩) w) := by
  by_cases k2 : kind = 2
  · exact Stat_dir w no kind links size t ev rv es rs he hr k2
  · exact Stat_else w no kind links size t ev rv es rs he hr k2
end Go.Proofs.Ytlfodhffecadoaa
