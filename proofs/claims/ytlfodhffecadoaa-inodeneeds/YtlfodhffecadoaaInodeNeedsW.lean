/-
  InodeNeeds: its walk.
-/
import Derived.Test.YtlfodhffecadoaaAwake12
namespace Go.Proofs.Ytlfodhffecadoaa
open Go.RowKit
set_option linter.unusedVariables false
set_option maxRecDepth 100000

def oneT : ByteArray := ⟨#[116]⟩
/-- A new one of these kinds. -/
def NewK (kk L S : Int) (T : ByteArray) : Prop := (kk = 1 ∧ L = 1 ∧ S = 0 ∧ T = ByteArray.empty) ∨ (kk = 2 ∧ L = 2 ∧ S = 0 ∧ T = ByteArray.empty) ∨ (kk = 3 ∧ L = 1 ∧ S = 1 ∧ T = oneT)
theorem NewK.right {kk L S : Int} {T : ByteArray} (h : NewK kk L S T) : rightI ⟨7, kk, L, S, T, [], []⟩ = true := by
  rcases h with ⟨rfl, rfl, rfl, rfl⟩ | ⟨rfl, rfl, rfl, rfl⟩ | ⟨rfl, rfl, rfl, rfl⟩ <;> rfl
theorem new7 (k : Nat) (hk : k < 3) : ∃ L S T, newI 7 (1 + (k : Int)) oneT = ⟨7, 1 + (k : Int), L, S, T, [], []⟩ ∧ NewK (1 + (k : Int)) L S T := by
  match k, hk with
  | 0, _ => exact ⟨1, 0, ByteArray.empty, rfl, .inl ⟨rfl, rfl, rfl, rfl⟩⟩
  | 1, _ => exact ⟨2, 0, ByteArray.empty, rfl, .inr (.inl ⟨rfl, rfl, rfl, rfl⟩)⟩
  | 2, _ => exact ⟨1, 1, oneT, rfl, .inr (.inr ⟨rfl, rfl, rfl, rfl⟩)⟩

theorem add_block (a : Addr) (n : Nat) : (a.add n).block = a.block := by unfold Addr.add; split <;> rfl
theorem ERow.grown {w w' : World} {v : Value} {l : List En} {r : Option Nat} (h : ERow w v l) (hg : w.grownBy w' r) (hr : ∀ a n c, v = .slice (some a) n c → some a.block ≠ r) : ERow w' v l := by
  obtain ⟨⟨ao, cap, hv, h1, h2, h3, h4⟩, hw⟩ := h
  exact ⟨⟨ao, cap, hv, h1, h2, h3, fun a ha i x hx j u hu => hg.cell (h4 a ha i x hx j u hu) (by have := hr a l.length cap (by rw [hv, ha]); rw [add_block]; exact this)⟩, hw⟩
theorem RRow.grown {w w' : World} {v : Value} {l : List Rn} {r : Option Nat} (h : RRow w v l) (hg : w.grownBy w' r) (hr : ∀ a n c, v = .slice (some a) n c → some a.block ≠ r) : RRow w' v l := by
  obtain ⟨⟨ao, cap, hv, h1, h2, h3, h4⟩, hw⟩ := h
  exact ⟨⟨ao, cap, hv, h1, h2, h3, fun a ha i x hx j u hu => hg.cell (h4 a ha i x hx j u hu) (by have := hr a l.length cap (by rw [hv, ha]); rw [add_block]; exact this)⟩, hw⟩
def badE : List En := [⟨ByteArray.empty, 5⟩]
def badR : List Rn := [⟨64, 0, 1⟩]
def moreT (T : ByteArray) : ByteArray := T ++ ⟨#[120]⟩
/-- One thing that may not be. -/
def Spoil (kk L S : Int) (T : ByteArray) (x : Ino) : Prop :=
  x = ⟨0, kk, L, S, T, [], []⟩ ∨ x = ⟨7, 4, L, S, T, [], []⟩ ∨ x = ⟨7, kk, -1, S, T, [], []⟩ ∨ x = ⟨7, kk, 101, S, T, [], []⟩ ∨ x = ⟨7, kk, L, -1, T, [], []⟩ ∨
  (kk = 1 ∧ x = ⟨7, kk, L, 16385, T, [], []⟩) ∨ (kk ≠ 1 ∧ x = ⟨7, kk, L, S + 1, T, [], []⟩) ∨ x = ⟨7, kk, L, S, moreT T, [], []⟩ ∨ x = ⟨7, kk, L, S, T, badE, []⟩ ∨ x = ⟨7, kk, L, S, T, [], badR⟩
theorem spoil_bad {kk L S : Int} {T : ByteArray} (h : NewK kk L S T) {x : Ino} (hx : Spoil kk L S T x) : rightI x = false := by
  unfold Spoil at hx
  rcases h with ⟨rfl, rfl, rfl, rfl⟩ | ⟨rfl, rfl, rfl, rfl⟩ | ⟨rfl, rfl, rfl, rfl⟩ <;>
    rcases hx with rfl | rfl | rfl | rfl | rfl | ⟨h, rfl⟩ | ⟨h, rfl⟩ | rfl | rfl | rfl <;> first | rfl | (exact absurd rfl h) | (exact absurd h (by decide))
/-- What goes into the last look. -/
def LastN (w : World) (B : Nat) (wx : World) : Prop :=
  ∃ (x : Ino) (ev rv : Value), Blk wx B #[.int .i64 x.no, .int .i64 x.kind, .int .i64 x.links, .int .i64 x.size, .string x.t, ev, rv] 25 ∧ (Lit.int .i64 x.kind).wf = true ∧ x.t.size ≤ maxLen ∧
    ERow wx ev x.es ∧ RRow wx rv x.rs ∧ rightI x = false ∧ Below w.heap.size w wx

set_option maxHeartbeats 4000000 in
theorem InodeNeeds_walk (a0 a1 : Int) (w : World) (w0 : (Lit.int .i64 a0).wf = true) (w1 : (Lit.int .i64 a1).wf = true) :
    Calls Try.prog 5 #[.int .i64 a0, .int .i64 a1] w fun e w' => e = .returned (.bool true) ∧ Below w.heap.size w w' := by
  obtain ⟨k, hk, eK⟩ := cut_n a0 3 (by omega) (by omega)
  rw [show ((3 : Nat) : Int) = 3 from rfl] at eK
  obtain ⟨L, S, T, hN, HNK⟩ := new7 k hk
  have eKK : wrap64 (1 + wrap64 ((IntKind.u64.wrap a0).tmod 3)) = 1 + (k : Int) := by rw [eK]; unfold wrap64; omega
  generalize (1 + (k : Int)) = kk at *
  have hkw : (Lit.int .i64 kk).wf = true := by
    rcases HNK with ⟨rfl, _⟩ | ⟨rfl, _⟩ | ⟨rfl, _⟩ <;> decide
  have hTs : T.size ≤ 1 := by
    rcases HNK with ⟨_, _, _, rfl⟩ | ⟨_, _, _, rfl⟩ | ⟨_, _, _, rfl⟩ <;> decide
  have hnew := fun w => New_any w 7 kk oneT hkw (by unfold maxLen; decide)
  unfold SaysI at hnew
  simp only [hN] at hnew
  have HNW := hide hnew
  have HR := hide HNK.right
  have HE := hide eKK
  have HTS := hide hTs
  have HKW := hide hkw
  have HNK := hide HNK
  clear hN hnew eKK eK hTs hk hkw
  go_enter Try.func5, Try.ntmps5
  go_wp2_with fail
  rw [HE.out]
  refine (HNW.out w).mono ?_
  rintro e w2 ⟨rfl, hb2⟩
  go_upto_region 3 with fail
  have hX := Blk.new w2 #[.int .i64 7, .int .i64 kk, .int .i64 L, .int .i64 S, .string T, .slice none 0 0, .slice none 0 0] 25
  have HB := hide (kl_step (kl_alloc w2 (.cells #[.int .i64 7, .int .i64 kk, .int .i64 L, .int .i64 S, .string T, .slice none 0 0, .slice none 0 0] 25)) hb2)
  have hlt : w.heap.size ≤ w2.heap.size := hb2.size
  generalize w2.alloc (.cells #[.int .i64 7, .int .i64 kk, .int .i64 L, .int .i64 S, .string T, .slice none 0 0, .slice none 0 0] 25) = W at *
  generalize w2.heap.size = B at *
  have HX := hide hX
  clear hX hb2
  go_wp2_with fail
  refine (awake_any W).mono ?_
  rintro e w3 ⟨rfl, hb3⟩
  have HX3 := hide (kl_blk hb3 HX.out)
  have HB3 := hide (kl_step hb3 HB.out)
  obtain ⟨c0, c1, c2, c3, c4, c5, c6⟩ := seven HX3.out
  clear hb3
  go_wp2_with fail
  refine (RightI_any w3 7 kk L S T (.slice none 0 0) (.slice none 0 0) [] [] HKW.out (by unfold maxLen; have := HTS.out; omega) (ERow.nil w3) (RRow.nil w3)).mono ?_
  rintro e w4 ⟨rfl, hb4⟩
  rw [HR.out]
  have HX4 := hide (kl_blk hb4 HX3.out)
  have HB4 := hide (kl_step hb4 HB3.out)
  clear hb4 c0 c1 c2 c3 c4 c5 c6 HX HB HX3 HB3
  obtain ⟨q, hq, hq0, hq9⟩ : ∃ q : Int, (IntKind.u64.wrap a1).tmod 9 = q ∧ 0 ≤ q ∧ q < 9 := ⟨_, rfl, Int.tmod_nonneg _ (by rw [IntKind.wrap_u64]; omega), Int.tmod_lt_of_pos _ (by decide)⟩
  have HQ := hide hq
  clear hq w0 w1
  go_upto_block 0 with fail
  rw [HQ.out]
  clear HQ HE HNW HR
  go_cut [5] (fun s5 wx => s5 = .pointer (some ⟨B, 0, none⟩) ∧ LastN w B wx)
  case first =>
    obtain ⟨c0, c1, c2, c3, c4, c5, c6⟩ := seven HX4.out
    have f0 := HX4.out.frozen 0
    have f1 := HX4.out.frozen 1
    have f2 := HX4.out.frozen 2
    have f3 := HX4.out.frozen 3
    have f4 := HX4.out.frozen 4
    have f5 := HX4.out.frozen 5
    have f6 := HX4.out.frozen 6
    have HSB := hide (fun x (h : Spoil kk L S T x) => spoil_bad HNK.out h)
    have hBS : ∀ i v, Below w.heap.size w (w4.setCell ⟨B, i, none⟩ v) := fun i v => HB4.out.setCell (p := ⟨B, i, none⟩) hlt v
    have HBS := hide hBS
    have HBW := hide HX4.out.lt
    clear hBS
    have hq' : q = 0 ∨ q = 1 ∨ q = 2 ∨ q = 3 ∨ q = 4 ∨ q = 5 ∨ q = 6 ∨ q = 7 ∨ q = 8 := by omega
    clear hq0 hq9
    rcases hq' with rfl | rfl | rfl | rfl | rfl | rfl | rfl | rfl | rfl
    · go_wp2
      go_meet
      exact ⟨rfl, ⟨0, kk, L, S, T, [], []⟩, _, _, HX4.out.set 0 _, HKW.out, by show T.size ≤ maxLen; unfold maxLen; have := HTS.out; omega, ERow.nil _, RRow.nil _, HSB.out _ (.inl rfl), HBS.out _ _⟩
    · go_wp2
      go_meet
      exact ⟨rfl, ⟨7, 4, L, S, T, [], []⟩, _, _, HX4.out.set 1 _, by show (Lit.int .i64 4).wf = true; decide, by show T.size ≤ maxLen; unfold maxLen; have := HTS.out; omega, ERow.nil _, RRow.nil _, HSB.out _ (.inr (.inl rfl)), HBS.out _ _⟩
    · go_wp2
      go_meet
      exact ⟨rfl, ⟨7, kk, -1, S, T, [], []⟩, _, _, HX4.out.set 2 _, HKW.out, by show T.size ≤ maxLen; unfold maxLen; have := HTS.out; omega, ERow.nil _, RRow.nil _, HSB.out _ (.inr (.inr (.inl rfl))), HBS.out _ _⟩
    · go_wp2
      go_meet
      exact ⟨rfl, ⟨7, kk, 101, S, T, [], []⟩, _, _, HX4.out.set 2 _, HKW.out, by show T.size ≤ maxLen; unfold maxLen; have := HTS.out; omega, ERow.nil _, RRow.nil _, HSB.out _ (.inr (.inr (.inr (.inl rfl)))), HBS.out _ _⟩
    · go_wp2
      go_meet
      exact ⟨rfl, ⟨7, kk, L, -1, T, [], []⟩, _, _, HX4.out.set 3 _, HKW.out, by show T.size ≤ maxLen; unfold maxLen; have := HTS.out; omega, ERow.nil _, RRow.nil _, HSB.out _ (.inr (.inr (.inr (.inr (.inl rfl))))), HBS.out _ _⟩
    · have HS1 := hide (show S = 0 ∨ S = 1 by rcases HNK.out with ⟨_, _, h, _⟩ | ⟨_, _, h, _⟩ | ⟨_, _, h, _⟩ <;> omega)
      by_cases hk1 : kk = 1
      · have hk1' : (kk == 1) = true := by simpa using hk1
        have HK1 := hide hk1
        clear hk1
        go_wp2
        go_meet
        exact ⟨rfl, ⟨7, kk, L, 16385, T, [], []⟩, _, _, HX4.out.set 3 _, HKW.out, by show T.size ≤ maxLen; unfold maxLen; have := HTS.out; omega, ERow.nil _, RRow.nil _, HSB.out _ (.inr (.inr (.inr (.inr (.inr (.inl ⟨HK1.out, rfl⟩)))))), HBS.out _ _⟩
      · have hk1' : (kk == 1) = false := by simpa using hk1
        have HK1 := hide hk1
        have hS0 : 0 ≤ S := by have := HS1.out; omega
        have hS1 : S ≤ 1 := by have := HS1.out; omega
        clear hk1
        go_wp2
        go_meet
        exact ⟨rfl, ⟨7, kk, L, S + 1, T, [], []⟩, _, _, HX4.out.set 3 _, HKW.out, by show T.size ≤ maxLen; unfold maxLen; have := HTS.out; omega, ERow.nil _, RRow.nil _, HSB.out _ (.inr (.inr (.inr (.inr (.inr (.inr (.inl ⟨HK1.out, rfl⟩))))))), HBS.out _ _⟩
    · have hTs := HTS.out
      go_wp2
      go_meet
      exact ⟨rfl, ⟨7, kk, L, S, moreT T, [], []⟩, _, _, HX4.out.set 4 _, HKW.out, by show (moreT T).size ≤ maxLen; unfold moreT maxLen; rw [ByteArray.size_append]; show T.size + 1 ≤ _; omega, ERow.nil _, RRow.nil _, HSB.out _ (.inr (.inr (.inr (.inr (.inr (.inr (.inr (.inl rfl)))))))), HBS.out _ _⟩
    · have hz := kl_blk (kl_alloc w4 (.cells #[.string ⟨#[]⟩, .int .i64 5] 38)) HX4.out
      have z5 : (w4.alloc (.cells #[.string ⟨#[]⟩, .int .i64 5] 38)).cell? ⟨B, 5, none⟩ = some (.slice none 0 0) := hz.cell 5
      have y5 := hz.frozen 5
      have he := ents_new w4 badE #[.string ⟨#[]⟩, .int .i64 5] 38 1 rfl rfl (by decide) (by intro r hr; simp [badE] at hr; subst hr; exact ⟨by unfold maxLen; decide, by decide⟩)
      have HER := hide (he.grown (grown_setCell _ B 5 (.slice (some ⟨w4.heap.size, 0, none⟩) 1 1)) (by intro a n c e; cases e; have := HBW.out; simp; omega))
      have HZ := hide (hz.set 5 (.slice (some ⟨w4.heap.size, 0, none⟩) 1 1))
      have HBL := hide ((kl_step (kl_alloc w4 (.cells #[.string ⟨#[]⟩, .int .i64 5] 38)) HB4.out).setCell (p := ⟨B, 5, none⟩) hlt (.slice (some ⟨w4.heap.size, 0, none⟩) 1 1))
      clear hz he
      go_wp2
      go_meet
      exact ⟨rfl, ⟨7, kk, L, S, T, badE, []⟩, _, _, HZ.out, HKW.out, by show T.size ≤ maxLen; unfold maxLen; have := HTS.out; omega, HER.out, RRow.nil _, HSB.out _ (.inr (.inr (.inr (.inr (.inr (.inr (.inr (.inr (.inl rfl))))))))), HBL.out⟩
    · have hz := kl_blk (kl_alloc w4 (.cells #[.int .i64 64, .int .i64 0, .int .i64 1] 40)) HX4.out
      have z6 : (w4.alloc (.cells #[.int .i64 64, .int .i64 0, .int .i64 1] 40)).cell? ⟨B, 6, none⟩ = some (.slice none 0 0) := hz.cell 6
      have y6 := hz.frozen 6
      have he := runs_new w4 badR #[.int .i64 64, .int .i64 0, .int .i64 1] 40 1 rfl rfl (by decide) (by intro r hr; simp [badR] at hr; subst hr; exact ⟨by decide, by decide, by decide⟩)
      have HER := hide (he.grown (grown_setCell _ B 6 (.slice (some ⟨w4.heap.size, 0, none⟩) 1 1)) (by intro a n c e; cases e; have := HBW.out; simp; omega))
      have HZ := hide (hz.set 6 (.slice (some ⟨w4.heap.size, 0, none⟩) 1 1))
      have HBL := hide ((kl_step (kl_alloc w4 (.cells #[.int .i64 64, .int .i64 0, .int .i64 1] 40)) HB4.out).setCell (p := ⟨B, 6, none⟩) hlt (.slice (some ⟨w4.heap.size, 0, none⟩) 1 1))
      clear hz he
      go_wp2
      go_meet
      exact ⟨rfl, ⟨7, kk, L, S, T, [], badR⟩, _, _, HZ.out, HKW.out, by show T.size ≤ maxLen; unfold maxLen; have := HTS.out; omega, ERow.nil _, HER.out, HSB.out _ (.inr (.inr (.inr (.inr (.inr (.inr (.inr (.inr (.inr rfl))))))))), HBL.out⟩
  case rest =>
    obtain ⟨rfl, ⟨no, kk', L', S', T', es, rs⟩, ev, rv, hX, hk', hT', he, hr, hbad, hB⟩ := hcut
    simp only at hX hk' hT' he hr
    obtain ⟨c0, c1, c2, c3, c4, c5, c6⟩ := seven hX
    have HB := hide hB
    have HBD := hide hbad
    have HR := hide (RightI_any wc no kk' L' S' T' ev rv es rs hk' hT' he hr)
    clear hB hbad hX he hr hk' hT'
    go_wp2_with fail
    refine HR.out.mono ?_
    rintro e w5 ⟨rfl, hb5⟩
    rw [HBD.out]
    have HB5 := hide (kl_step hb5 HB.out)
    clear hb5 c0 c1 c2 c3 c4 c5 c6
    go_wp2
    go_ret
    exact ⟨rfl, HB5.out⟩
end Go.Proofs.Ytlfodhffecadoaa
