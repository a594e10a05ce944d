/-
  The document's own chip, made.
-/
import Derived.Test.YtgkgbbffgcmekaaRefNor
namespace Go.Proofs.Ytgkgbbffgcmekaa
open Go.RowKit
set_option linter.unusedVariables false
set_option maxRecDepth 100000

theorem made1 {t : TypeId} {w W w16 : World} {A B : Nat} {c d e : Int} {po : Option Addr} (hbel : Below w.heap.size w W) (hb : Blk w16 W.heap.size (bv (List.replicate (A * B) 255)).toArray 5) (hB : Below W.heap.size W w16) (hs : w16.heap.size = W.heap.size + 1) :
    Made t w ((w16.alloc (.cells (iv .i64 (List.replicate A 0)).toArray 3)).alloc (.cells #[.int .i64 A, .int .i64 B, .int .i64 c, .int .i64 d, .int .i64 e, .pointer po, .slice (some ⟨W.heap.size, 0, none⟩) (A * B) (A * B), .slice (some ⟨W.heap.size + 1, 0, none⟩) A A] t)) (W.heap.size + 1 + 1) W.heap.size (W.heap.size + 1) A B c d e po := by
  have hw := hbel.size
  have g1 := World.grownBy_alloc w16 (.cells (iv .i64 (List.replicate A 0)).toArray 3) none
  have n1 := Blk.new w16 (iv .i64 (List.replicate A 0)).toArray 3
  rw [hs] at n1
  have n2 := Blk.new (w16.alloc (.cells (iv .i64 (List.replicate A 0)).toArray 3)) #[.int .i64 A, .int .i64 B, .int .i64 c, .int .i64 d, .int .i64 e, .pointer po, .slice (some ⟨W.heap.size, 0, none⟩) (A * B) (A * B), .slice (some ⟨W.heap.size + 1, 0, none⟩) A A] t
  rw [show (w16.alloc (.cells (iv .i64 (List.replicate A 0)).toArray 3)).heap.size = W.heap.size + 1 + 1 from by simp [hs]] at n2
  refine ⟨n2, (hb.kept g1 (by simp)).kept (World.grownBy_alloc _ _ none) (by simp), n1.kept (World.grownBy_alloc _ _ none) (by simp), ⟨by omega, by omega, by omega⟩, ⟨by omega, by omega, by omega⟩, ?_⟩
  exact ((hbel.trans (hB.mono hw)).alloc (by omega) _).alloc (by simp; omega) _
theorem made2 {t : TypeId} {w W w16 : World} {A B : Nat} {c d e : Int} {po : Option Addr} (hbel : Below w.heap.size w W) (hb : Blk w16 (W.heap.size + 1) (bv (List.replicate (A * B) 255)).toArray 5) (hB : Below (W.heap.size + 1) (W.alloc (.cells (iv .i64 (List.replicate A 0)).toArray 3)) w16) (hs : w16.heap.size = W.heap.size + 1 + 1) :
    Made t w (w16.alloc (.cells #[.int .i64 A, .int .i64 B, .int .i64 c, .int .i64 d, .int .i64 e, .pointer po, .slice (some ⟨W.heap.size + 1, 0, none⟩) (A * B) (A * B), .slice (some ⟨W.heap.size, 0, none⟩) A A] t)) (W.heap.size + 1 + 1) (W.heap.size + 1) W.heap.size A B c d e po := by
  have hw := hbel.size
  have n1 := (Blk.new W (iv .i64 (List.replicate A 0)).toArray 3).below hB (by omega)
  have n2 := Blk.new w16 #[.int .i64 A, .int .i64 B, .int .i64 c, .int .i64 d, .int .i64 e, .pointer po, .slice (some ⟨W.heap.size + 1, 0, none⟩) (A * B) (A * B), .slice (some ⟨W.heap.size, 0, none⟩) A A] t
  rw [hs] at n2
  refine ⟨n2, hb.kept (World.grownBy_alloc _ _ none) (by simp), n1.kept (World.grownBy_alloc _ _ none) (by simp), ⟨by omega, by omega, by omega⟩, ⟨by omega, by omega, by omega⟩, ?_⟩
  exact (((hbel.alloc hw _).trans (hB.mono (by omega)))).alloc (by omega) _

set_option maxHeartbeats 4000000 in
theorem RNewNor_right (w : World) (A B : Nat) (c d e : Int) (po : Option Addr) (hr : rightS A B c d e = true) :
    Calls Try.prog 11 #[.agg (gcells A B c d e), .pointer po] w fun x w' =>
      ∃ k bb eb, x = .returned (.tuple #[.pointer (some ⟨k, 0, none⟩), .int .i64 0]) ∧ Made 74 w w' k bb eb A B c d e po := by
  have hu := rightS_of hr
  have hA0 : 2 ≤ A ∧ A ≤ 16 := by omega
  have hB0 : 256 ≤ B ∧ B ≤ 4096 := by omega
  have hri := fun w => RRight_any w A B c d e (wf_i64 (by omega) (by omega))
  rw [hr] at hri
  have hAB : 512 ≤ A * B ∧ A * B ≤ 65536 := ⟨Nat.mul_le_mul hA0.1 hB0.1, Nat.mul_le_mul hA0.2 hB0.2⟩
  have hm : ((A : Int) * (B : Int)) = ((A * B : Nat) : Int) := by simp
  have m2 := fun w => run_make_ints w A (by omega)
  have hbl := fun w => blank_any w (A * B) (by omega)
  clear hu
  have hG : HoldG w.heap.size A B c d e ((w.alloc (.cells (gcells A B c d e) 23)).alloc (.cells (gcells A B c d e) 23)) := holdG_alloc _ (holdG_of (Blk.new w _ _))
  unfold gcells at hri hG ⊢
  generalize hLL : A * B = len at *
  have hbl' := hbl
  rw [← i64_in (len : Int) (by omega)] at hbl
  clear hbl'
  go_enter Try.func11, Try.ntmps11
  go_wp2_with fail
  refine (hri _).mono ?_
  rintro e w1 ⟨rfl, rfl⟩
  have hsz : ((w.alloc (.cells #[.int .i64 A, .int .i64 B, .int .i64 c, .int .i64 d, .int .i64 e] 23)).alloc (.cells #[.int .i64 A, .int .i64 B, .int .i64 c, .int .i64 d, .int .i64 e] 23)).heap.size = w.heap.size + 2 := by simp
  have hbel : Below w.heap.size w ((w.alloc (.cells #[.int .i64 A, .int .i64 B, .int .i64 c, .int .i64 d, .int .i64 e] 23)).alloc (.cells #[.int .i64 A, .int .i64 B, .int .i64 c, .int .i64 d, .int .i64 e] 23)) := ((Below.refl _ _).alloc (Nat.le_refl _) _).alloc (by simp) _
  go_wp2_with fail
  generalize (w.alloc (.cells #[.int .i64 A, .int .i64 B, .int .i64 c, .int .i64 d, .int .i64 e] 23)).alloc (.cells #[.int .i64 A, .int .i64 B, .int .i64 c, .int .i64 d, .int .i64 e] 23) = W at *
  have HSZ := hide hsz
  clear hsz
  go_region_held3 (fun w' => (w'.cell? ⟨w.heap.size, 0, none⟩ = some (.int .i64 A) ∧ w'.cell? ⟨w.heap.size, 1, none⟩ = some (.int .i64 B) ∧ w'.cell? ⟨w.heap.size, 2, none⟩ = some (.int .i64 c) ∧ w'.cell? ⟨w.heap.size, 3, none⟩ = some (.int .i64 d) ∧ w'.cell? ⟨w.heap.size, 4, none⟩ = some (.int .i64 e)) ∧ Blk w' w.heap.size (gcells A B c d e) 23)
    (first
      | assumption
      | exact holdG_drew (by assumption)
      | exact holdG_below hB16 (by assumption)
      | exact holdG_alloc _ (by assumption))
    (first
      | (go_at_call 35; refine (hbl _).mono ?_; rintro e w16 ⟨rfl, hb16, hB16, hs16⟩))
  case' _ =>
    have R := made1 (t := 74) (c := c) (d := d) (e := e) (po := po) hbel (by rw [hLL]; exact hb16) ((Below.refl _ W).drew.trans hB16) (by exact hs16)
    rw [hLL] at R
    clear hb16 hB16 hs16
    go_wp2
    go_ret2
    exact ⟨_, _, _, rfl, R⟩
  all_goals
    have R := made2 (t := 74) (c := c) (d := d) (e := e) (po := po) hbel (by rw [hLL]; simpa using hb16) ((Below.refl _ _).drew.trans (by simpa using hB16)) (by simpa using hs16)
    rw [hLL] at R
    clear hb16 hB16 hs16
    go_wp2
    go_ret2
    exact ⟨_, _, _, rfl, R⟩

/-- The document's chip with its power. -/
def RDev (base : Nat) (w : World) (L : Lay) (S : PSt) (N : NSt) : Prop := RPowN base w L.pb S ∧ Chip 74 base w L N
section
variable {base : Nat} {w w' : World} {L : Lay} {S S' : PSt} {N : NSt}
theorem RDev.step (h : RDev base w L S N) (hp : RPowN base w' L.pb S') (hg : w.grownBy w' (some L.pb)) : RDev base w' L S' N :=
  ⟨hp, h.2.only (only_grown (l := [L.pb]) hg (fun k e => by cases e; simp)) (by simp; exact h.2.ne.1) (by simp; exact fun e => h.2.ne.2.2.2.1 e.symm) (by simp; exact fun e => h.2.ne.2.2.2.2.1 e.symm)⟩
theorem RDev.still (h : RDev base w L S N) (hg : Only [] w w') : RDev base w' L S N :=
  ⟨h.1.only hg (by simp), h.2.only hg (by simp) (by simp) (by simp)⟩
theorem RDev.setByte (h : RDev base w L S N) (j : Nat) (y : Int) : RDev base (w.setCell ⟨L.bb, j, none⟩ (.int .u8 y)) L S { N with bs := N.bs.set j y } :=
  ⟨h.1.kept (grown_setCell _ _ _ _) (fun k e => by cases e; exact ⟨h.2.lt.2.2.1, fun e => h.2.ne.2.2.2.1 e.symm⟩), h.2.setByte j y⟩
theorem RDev.counted (h : RDev base w L S N) (j : Nat) (y : Int) : RDev base (w.setCell ⟨L.eb, j, none⟩ (.int .i64 y)) L S { N with er := N.er.set j y } :=
  have hg := only_setCell w L.eb j (.int .i64 y) [L.eb] (by simp)
  ⟨h.1.kept (grown_setCell _ _ _ _) (fun k e => by cases e; exact ⟨h.2.lt.2.2.2, fun e => h.2.ne.2.2.2.2.1 e.symm⟩), h.2.blk.only hg (by simp; exact h.2.ne.2.2.1), h.2.byt.only hg (by simp; exact h.2.ne.2.2.2.2.2), h.2.ers.setI j y, h.2.lt, h.2.ne⟩
end
end Go.Proofs.Ytgkgbbffgcmekaa
