/-
  What a region of NandStays holds; a row of slices that grows beside a chip.
-/
import Derived.Test.YtkfegoelfbjnoaaStaysP5
namespace Go.Proofs.Ytkfegoelfbjnoaa
open Go.RowKit
set_option linter.unusedVariables false
set_option maxRecDepth 100000

theorem only_cell {l : List Nat} {w w' : World} {b o : Nat} {u : Value} (h : Only l w w') (hn : b ∉ l) (hc : w.cell? ⟨b, o, none⟩ = some u) : w'.cell? ⟨b, o, none⟩ = some u :=
  (World.cell?_of_block (h.block b (World.block_lt_of_cell? w _ hc) hn)).trans hc
theorem only_alloc {l : List Nat} (w : World) (o : Obj) : Only l w (w.alloc o) := only_grown (World.grownBy_alloc _ _ none) (by simp)
theorem only_drew {l : List Nat} (w : World) : Only l w w.drew := only_grown (grown_drew w none) (by simp)
/-- Two cells that are read, and nothing but the blocks of l has turned. -/
def Two2 (l : List Nat) (W : World) (a b a' b' : Nat) (u v : Value) (w : World) : Prop := (w.cell? ⟨a, b, none⟩ = some u ∧ w.cell? ⟨a', b', none⟩ = some v) ∧ Only l W w
theorem hold2_only {l : List Nat} {W w w' : World} {a b a' b' : Nat} {u v : Value} (hO : Only l w w') (h1 : a ∉ l) (h2 : a' ∉ l) (h : (w.cell? ⟨a, b, none⟩ = some u ∧ w.cell? ⟨a', b', none⟩ = some v) ∧ Only l W w) : (w'.cell? ⟨a, b, none⟩ = some u ∧ w'.cell? ⟨a', b', none⟩ = some v) ∧ Only l W w' :=
  ⟨⟨only_cell hO h1 h.1.1, only_cell hO h2 h.1.2⟩, h.2.trans hO⟩
/-- The block of a slice's own. -/
def obl (v : Value) : List Nat := v.ownBlock.toList
theorem mem_obl {v : Value} {k : Nat} : k ∈ obl v ↔ v.ownBlock = some k := by simp [obl]
theorem VOwn.obl {base : Nat} {w : World} {v : Value} {us : List Value} (h : VOwn base w v us) : ∀ k ∈ obl v, base ≤ k ∧ k < w.heap.size := fun k hk => h.block k (mem_obl.1 hk)
theorem only_obl {v : Value} {w w' : World} (h : w.grownBy w' v.ownBlock) : Only (obl v) w w' := only_grown h (fun k hk => mem_obl.2 hk)
theorem obl_far {base : Nat} {w : World} {v : Value} {us : List Value} (h : VOwn base w v us) {a : Nat} (ha : a < base) : a ∉ obl v := fun hk => by have := (h.obl a hk).1; omega

section
variable {W3 : World} {base m : Nat} {w w' : World} {L : DLay} {S : PSt} {N : DSt} {v : Value} {us : List Value}
/-- A row of slices grows: the device stays. -/
theorem KeptD.appended (h : KeptD W3 base w L S N m) (ho : VOwn base w v us) (hg : w.grownBy w' v.ownBlock) (hmb : L.mb < base) (hmo : L.mo = none) : KeptD W3 base w' L S N m := by
  by_cases h0 : us.length = 0
  · rcases ho.1.2 with ⟨rfl, hn⟩ | ⟨g, cap, cur, hv, hbg, hh, hnc, hcm, hcs, htake⟩
    · exact h.still (only_grown hg (fun k e => by cases e))
    · subst hv
      have hO : Only [g] w w' := only_grown hg (fun k e => by cases e; simp)
      obtain ⟨b1, b2, b3, b4⟩ := h.dev.chip.lt
      obtain ⟨f, hf, hpg⟩ := h.dev.chip.pgs
      have hw := h.wb
      refine ⟨⟨h.dev.pow.only hO (by simp; omega) (fun k hk => by rw [hmo] at hk; cases hk), ⟨h.dev.chip.blk.only hO (by simp; omega), h.dev.chip.nxt.only hO (by simp; omega), h.dev.chip.ers.only hO (by simp; omega), ⟨f, hf.only hO (by simp; omega), ⟨?_, hpg.non, hpg.inj⟩⟩, h.dev.chip.lt, h.dev.chip.ne⟩, h.dev.mo⟩, h.lo, Nat.le_trans h.size hO.size, h.wb, hO.below h.below (by simp; omega) (Nat.le_trans h.wb h.size)⟩
      intro i k v hi hk hv
      obtain ⟨q, cap', rfl, hq, hn, hx⟩ := hpg.own i k v hi hk hv
      refine ⟨q, cap', rfl, hq.only hO (fun j hj hm => ?_), hn, hx⟩
      cases hj
      simp at hm
      subst hm
      rcases hq.1.2 with ⟨e, _⟩ | ⟨g2, cap2, cur2, hv2, _, hh2, _⟩
      · cases e
      · simp at hv2
        obtain ⟨rfl, _⟩ := hv2
        rw [hh] at hh2
        simp at hh2
  · obtain ⟨g, cap, rfl, hbg, hlt, hc⟩ := ho.form (by omega)
    exact h.slices (ho.sl (by omega) g rfl) (only_grown hg (fun k e => by cases e; simp)) hbg hmb (by rw [hmo]; simp)
/-- What stands in a block of bytes stays when a row of slices grows. -/
theorem Row.appended {g n cap : Nat} {xs : List Int} (h : Row w (.slice (some ⟨g, 0, none⟩) n cap) xs) (h0 : 0 < xs.length) (ho : VOwn base w v us) (hu : 0 < us.length) (hg : w.grownBy w' v.ownBlock) : Row w' (.slice (some ⟨g, 0, none⟩) n cap) xs := by
  refine h.only (only_obl hg) (fun b off n' c e hm => ?_)
  simp at e
  obtain ⟨⟨rfl, rfl⟩, _⟩ := e
  exact h.notSl h0 (ho.sl hu _ (mem_obl.1 hm))
end
theorem VOwn.still {base : Nat} {w w' : World} {v : Value} {us : List Value} (h : VOwn base w v us) (hO : Only [] w w') : VOwn base w' v us := h.only hO (by simp)

/-- One more page in the row. -/
theorem stay_want {W3 wr w41 w6 : World} {base m k g41 E : Nat} {L : DLay} {S : PSt} {N : DSt} {v : Value} {us : List Value} {xss : List (List Int)} {o : Obj} (hK : KeptD W3 base wr L S N m) (hown : VOwn base wr v us) (hul : us.length = k)
    (hus : ∀ q, q < k → ∃ g, us[q]? = some (.slice (some ⟨g, 0, none⟩) E E) ∧ base ≤ g ∧ Row wr (.slice (some ⟨g, 0, none⟩) E E) (stX E xss q))
    (hg41 : wr.drew.heap.size ≤ g41) (ho41 : Own wr.drew.heap.size w41 (.slice (some ⟨g41, 0, none⟩) E E) (stX E xss k)) (hb41 : Below wr.drew.heap.size wr.drew w41)
    (hg6 : (w41.alloc o).grownBy w6 v.ownBlock) (hmb : L.mb < base) (hmo : L.mo = none) (hE : 0 < E) :
    KeptD W3 base w6 L S N m ∧ (∀ q, q < k + 1 → ∃ g, (us ++ [.slice (some ⟨g41, 0, none⟩) E E])[q]? = some (.slice (some ⟨g, 0, none⟩) E E) ∧ base ≤ g ∧ Row w6 (.slice (some ⟨g, 0, none⟩) E E) (stX E xss q)) := by
  have O1 : Only [] wr w41 := (only_drew wr).trans (only_below hb41)
  have O2 : Only [] wr (w41.alloc o) := O1.trans (only_alloc _ _)
  have hown2 := hown.still O2
  refine ⟨(hK.still O2).appended hown2 hg6 hmb hmo, fun q hq => ?_⟩
  by_cases hqk : q < k
  · obtain ⟨g, e, hbg, hr⟩ := hus q hqk
    exact ⟨g, by rw [List.getElem?_append_left (by omega)]; exact e, hbg, (hr.only O2 (by simp)).appended (by rw [stX_length]; exact hE) hown2 (by omega) hg6⟩
  · obtain rfl : q = k := by omega
    have hs := hK.size
    have hsz : wr.drew.heap.size = wr.heap.size := rfl
    refine ⟨g41, by rw [List.getElem?_append_right (by omega), hul]; simp, by omega, ?_⟩
    refine (ho41.row.only (only_alloc (l := []) _ _) (by simp)).only (only_obl hg6) (fun b off n c e hm => ?_)
    simp at e
    obtain ⟨⟨rfl, rfl⟩, _⟩ := e
    have := (hown.obl _ hm).2
    omega
theorem wfNat5 {n : Nat} (h : n < 1000000) : (Lit.int .i64 (n : Int)).wf = true := wf_i64 (by omega) (by omega)
/-- A power after k steps. -/
def pz (k : Nat) : PSt := ⟨false, false, 0, 0, (k : Int), []⟩
theorem pz_ok (k n : Nat) (h : k ≤ n) : (pz k).Ok n := by
  refine ⟨?_, ?_, ?_, ?_, ?_⟩ <;> simp [pz] <;> first | omega | decide
theorem pz_step (k : Nat) : (pz k).step = (true, false, pz (k + 1)) := rfl
theorem pz_failed (k : Nat) : (pz k).failed = false := by simp [PSt.failed, pz]
/-- The next page is programmed. -/
theorem Prog5_stay {W3 w : World} {base k : Nat} {L : DLay} {N : DSt} {xss : List (List Int)} (hK : KeptD W3 base w L (pz k) N k) (hlay : Laid N xss k) (ok : N.Ok k) (hk : k < N.C * N.D) (hk2 : k < 3000) (dv sv : Value) (hd : Row w dv (stX N.E xss k)) (hs : Row w sv (stY k)) (hdp : ∀ g off n cap, dv = .slice (some ⟨g, off, none⟩) n cap → base ≤ g) (hsp : ∀ g off n cap, sv = .slice (some ⟨g, off, none⟩) n cap → base ≤ g) (hx : Bys (stX N.E xss k)) (q r : Int) (hq : q = ((k / N.D : Nat) : Int)) (hr : r = ((k % N.D : Nat) : Int)) :
    Calls Try.prog 24 #[.pointer (some ⟨L.c, 0, none⟩), .int .i64 q, .int .i64 r, dv, sv] w fun e w' =>
      e = .returned (.int .i64 0) ∧ (∃ M, Laid M xss (k + 1) ∧ N.Like M ∧ M.Ok (k + 1) ∧ KeptD W3 base w' L (pz (k + 1)) M (k + 1)) ∧ Only [L.pb, L.mb, L.nb] w w' := by
  subst hq hr
  obtain ⟨h1, h2, h3⟩ := hlay.next ok hk
  have hC := ok.C1
  have hD := ok.D1
  have hlt := hK.dev.chip.lt
  have okS := pz_ok k k (Nat.le_refl _)
  have hprog := progD_done (d := stX N.E xss k) (s := stY k) ok h1 h2 (stX_length _ _ _) (stY_length _) h3 (pz_step k) (pz_failed _)
  refine (Program5_any base w L _ N k k hK.dev okS ok (by omega) (by omega) hK.size _ _ (wfNat5 (by omega)) (wfNat5 (by omega)) dv sv _ _ hd hs (fun _ g off n cap e => by have := hdp g off n cap e; omega) (fun _ g off n cap e => by have := hsp g off n cap e; omega)).mono ?_
  rintro e w' ⟨rfl, hdev, hO⟩
  rw [hprog] at hdev ⊢
  refine ⟨rfl, ⟨_, hlay.more ok hk, ⟨rfl, rfl, rfl, rfl, rfl⟩, (ok.more (by omega)).put h1 h2 h3 (by rw [List.length_append, stX_length, stY_length]) (hx.app (stY_bys k)), ?_⟩, hO⟩
  have hKt := hK.turn hdev (hO.wide (fun x hx => by simp at hx ⊢; omega))
  exact hKt
/-- What is read behind the erase. -/
structure StayRead (E b : Nat) (xss : List (List Int)) (q kq : Nat) (ds ss : List Int) : Prop where
  dl : ds.length = E
  sl : ss.length = 16
  yes : kq = b → ds.getD 0 0 = 255 ∧ ss.getD 0 0 = 255
  no : ¬ kq = b → ds = stX E xss q ∧ ss.getD 0 0 = (q : Int)
theorem Read5_stay {W3 w : World} {base m n k q b E D kq kr : Nat} {L : DLay} {S : PSt} {N : DSt} {xss : List (List Int)} (hK : KeptD W3 base w L S ((N.wipe b 255).count b) m) (hlay : Laid N xss k) (ok : N.Ok n) (okE : ((N.wipe b 255).count b).Ok (n + 1)) (hk : k ≤ N.C * N.D) (hqk : q < k) (hb : b < N.C) (hE : E = N.E) (hD : D = N.D) (hq : kq = q / D) (hr : kr = q % D) (h256 : q < 256) (hE0 : 0 < E) :
    Calls Try.prog 27 #[.pointer (some ⟨L.c, 0, none⟩), .int .i64 (kq : Int), .int .i64 (kr : Int)] w fun e w' =>
      ∃ a o c a' o' c' ds ss, e = .returned (.tuple #[.slice (some ⟨a, o, none⟩) E c, .slice (some ⟨a', o', none⟩) 16 c', .int .i64 0]) ∧ (StayRead E b xss q kq ds ss ∧ Row w' (.slice (some ⟨a, o, none⟩) E c) ds ∧ Row w' (.slice (some ⟨a', o', none⟩) 16 c') ss) ∧ (w'.cell? ⟨a, o, none⟩ = some (.int .u8 (ds.getD 0 0)) ∧ w'.cell? ⟨a', o', none⟩ = some (.int .u8 (ss.getD 0 0))) ∧ Below w.heap.size w w' := by
  subst hE hD hq hr
  have hrd := read_laid hlay ok hk hqk hb
  have hD0 : 0 < N.D := by have := ok.D0; omega
  have h1 : q / N.D < N.C := Nat.div_lt_of_lt_mul (by rw [Nat.mul_comm]; omega)
  have h2 := Nat.mod_lt q hD0
  have hC := ok.C1
  have hD1 := ok.D1
  obtain ⟨ds, ss, hx, hs⟩ : ∃ ds ss, readD ((N.wipe b 255).count b) ((q / N.D : Nat) : Int) ((q % N.D : Nat) : Int) = (0, ds, ss) ∧ StayRead N.E b xss q (q / N.D) ds ss := by
    rw [hrd]
    by_cases e : q / N.D = b
    · exact ⟨_, _, if_pos e, by simp, by simp, fun _ => ⟨getD_rep _ _ _ hE0, getD_rep _ _ _ (by omega)⟩, fun h => absurd e h⟩
    · exact ⟨_, _, if_neg e, stX_length _ _ _, stY_length _, fun h => absurd h e, fun _ => ⟨rfl, by rw [stY_head]; omega⟩⟩
  refine (Read5_any base w L _ m (n + 1) hK.dev.chip okE _ _ (wfNat5 (by omega)) (wfNat5 (by omega))).mono ?_
  rintro e w' ⟨u, v, rfl, hu, hv, hB⟩
  rw [hx] at hu hv ⊢
  simp only at hu hv ⊢
  have ru := hu.row
  have rv := hv.row
  obtain ⟨a, o, c, rfl, _, _, ca⟩ := ru.at (List.ne_nil_of_length_pos (by rw [hs.dl]; exact hE0))
  obtain ⟨a', o', c', rfl, _, _, ca'⟩ := rv.at (List.ne_nil_of_length_pos (by rw [hs.sl]; omega))
  have c1 := ca 0 (by rw [hs.dl]; exact hE0)
  have c2 := ca' 0 (by rw [hs.sl]; omega)
  rw [hs.dl] at ru
  rw [hs.sl] at rv
  exact ⟨a, o, c, a', o', c', ds, ss, by rw [hs.dl, hs.sl], ⟨hs, ru, rv⟩, ⟨c1, c2⟩, hB⟩
end Go.Proofs.Ytkfegoelfbjnoaa
