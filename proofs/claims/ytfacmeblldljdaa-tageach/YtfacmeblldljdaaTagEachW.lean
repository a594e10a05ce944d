/-
  The walk of garretlaw06.TagEach.
-/
import Derived.Test.YtfacmeblldljdaaAwake06
import Derived.Test.YtfacmeblldljdaaTagO
import Derived.Test.YtfacmeblldljdaaHelp
import Derived.Test.YtfacmeblldljdaaDrawn
import Derived.Deep.RegionHeld3
import Derived.BigRegion
import Derived.OpenShut
namespace Go.Proofs.Ytfacmeblldljdaa
open Go.RowKit
set_option linter.unusedVariables false

theorem i64_and31 (n : Int) : bits .and .i64 n 2147483647 = n % 2147483648 := by
  have h127 : (BitVec.ofInt 64 2147483647).toNat = 2 ^ 31 - 1 := by decide
  have key : (BitVec.ofInt 64 n &&& BitVec.ofInt 64 2147483647).toNat = (n % ((2 ^ 64 : Nat) : Int)).toNat % 2 ^ 31 := by
    rw [BitVec.toNat_and, BitVec.toNat_ofInt, h127, Nat.and_two_pow_sub_one_eq_mod]
  show IntKind.i64.wrap ((BitVec.ofInt 64 n &&& BitVec.ofInt 64 2147483647).toNat : Nat) = n % 2147483648
  rw [key, IntKind.wrap_i64]
  omega
theorem inNum_and (n : Int) : inNum (bits .and .i64 n 2147483647) = true := by
  rw [i64_and31]
  exact inNum_yes' (by omega) (by omega)
where inNum_yes' {v : Int} (h0 : 0 ≤ v) (h1 : v ≤ 2147483647) : inNum v = true := by simp [inNum, h0, h1]

theorem Blk.tag' {w : World} {g : Nat} {a b s : Int} {t : TypeId} (h : Blk w g (tcells a b s) t) : w.cell? ⟨g, 0, none⟩ = some (.int .i64 a) ∧ w.cell? ⟨g, 1, none⟩ = some (.int .i64 b) ∧ w.cell? ⟨g, 2, none⟩ = some (.int .u32 s) :=
  ⟨(h.cell 0).trans rfl, (h.cell 1).trans rfl, (h.cell 2).trans rfl⟩
theorem text_beq {xs ys : List Int} (hx : Bys xs) (hy : Bys ys) : ((strOfNums xs).toList == (strOfNums ys).toList) = decide (xs = ys) := by
  by_cases e : xs = ys
  · subst e; simp
  · have : ¬ (strOfNums xs).toList = (strOfNums ys).toList := by
      intro h
      rw [Lib.strOfNums_toList, Lib.strOfNums_toList] at h
      exact e (strOfNums_inj hx hy (by unfold strOfNums; congr 1; exact congrArg List.toArray h))
    rw [decide_eq_false e]
    simpa using this
/-- What the last line reads. -/
def EachS (x y : Value) (xs ys : List Int) (g h : Nat) (A B s C D t : Int) (wz w' : World) : Prop :=
  ((w'.cell? ⟨g, 0, none⟩ = some (.int .i64 A) ∧ w'.cell? ⟨g, 1, none⟩ = some (.int .i64 B) ∧ w'.cell? ⟨g, 2, none⟩ = some (.int .u32 s)) ∧
  (w'.cell? ⟨h, 0, none⟩ = some (.int .i64 C) ∧ w'.cell? ⟨h, 1, none⟩ = some (.int .i64 D) ∧ w'.cell? ⟨h, 2, none⟩ = some (.int .u32 t)) ∧
  (convert 22 9 x).run Try.prog w' = .ok (.string (strOfNums xs)) w' ∧ (convert 22 9 y).run Try.prog w' = .ok (.string (strOfNums ys)) w') ∧ Below wz.heap.size wz w'
theorem EachS_of {x y : Value} {xs ys : List Int} {g h : Nat} {A B s C D t : Int} {T U : TypeId} {wz w' : World} (k1 : Blk wz g (tcells A B s) T) (k2 : Blk wz h (tcells C D t) U) (rx : Row wz x xs) (ry : Row wz y ys) (hb : Below wz.heap.size wz w') : EachS x y xs ys g h A B s C D t wz w' :=
  ⟨⟨(k1.below hb k1.lt).tag', (k2.below hb k2.lt).tag', (rx.below hb).text, (ry.below hb).text⟩, hb⟩

set_option maxHeartbeats 4000000 in
theorem TagEach_walk (a b s c d t : Int) (w : World) (w0 : TagOk a b s) (w1 : TagOk c d t) :
    Calls Try.prog 6 #[.agg (tcells a b s), .agg (tcells c d t)] w fun e w' => e = .returned (.bool true) ∧ Below w.heap.size w w' := by
  have hs := w0.sum
  have ht := w1.sum
  have HA := hide (inNum_and a)
  have HB := hide (inNum_and b)
  have HC := hide (inNum_and c)
  have HD := hide (inNum_and d)
  obtain ⟨A, hA⟩ : ∃ z, bits .and .i64 a 2147483647 = z := ⟨_, rfl⟩
  obtain ⟨B, hB⟩ : ∃ z, bits .and .i64 b 2147483647 = z := ⟨_, rfl⟩
  obtain ⟨C, hC⟩ : ∃ z, bits .and .i64 c 2147483647 = z := ⟨_, rfl⟩
  obtain ⟨D, hD⟩ : ∃ z, bits .and .i64 d 2147483647 = z := ⟨_, rfl⟩
  rw [hA] at HA
  rw [hB] at HB
  rw [hC] at HC
  rw [hD] at HD
  clear w0 w1
  have hk1 : Blk ((w.alloc (.cells #[.int .i64 a, .int .i64 b, .int .u32 s] 25)).alloc (.cells #[.int .i64 c, .int .i64 d, .int .u32 t] 25)) w.heap.size #[.int .i64 a, .int .i64 b, .int .u32 s] 25 :=
    (Blk.new w _ _).below ((Below.refl _ _).alloc (Nat.le_refl _) _) (Blk.new w _ _).lt
  have hk2 : Blk ((w.alloc (.cells #[.int .i64 a, .int .i64 b, .int .u32 s] 25)).alloc (.cells #[.int .i64 c, .int .i64 d, .int .u32 t] 25)) (w.heap.size + 1) #[.int .i64 c, .int .i64 d, .int .u32 t] 25 := by
    have := Blk.new (w.alloc (.cells #[.int .i64 a, .int .i64 b, .int .u32 s] 25)) #[.int .i64 c, .int .i64 d, .int .u32 t] 25
    simpa using this
  have hb0 : Below w.heap.size w ((w.alloc (.cells #[.int .i64 a, .int .i64 b, .int .u32 s] 25)).alloc (.cells #[.int .i64 c, .int .i64 d, .int .u32 t] 25)) := ((Below.refl _ _).alloc (Nat.le_refl _) _).alloc (by simp) _
  unfold tcells
  go_enter Try.func6, Try.ntmps6
  go_wp2_with fail
  generalize (w.alloc (.cells #[.int .i64 a, .int .i64 b, .int .u32 s] 25)).alloc (.cells #[.int .i64 c, .int .i64 d, .int .u32 t] 25) = W at *
  have c0 := (hk1.cell 0).trans (show _ = some (Value.int .i64 a) from rfl)
  have c1 := (hk1.cell 1).trans (show _ = some (Value.int .i64 b) from rfl)
  have d0 := (hk2.cell 0).trans (show _ = some (Value.int .i64 c) from rfl)
  have d1 := (hk2.cell 1).trans (show _ = some (Value.int .i64 d) from rfl)
  have f0 := hk1.frozen 0
  have f1 := hk1.frozen 1
  have g0 := hk2.frozen 0
  have g1 := hk2.frozen 1
  have HK1 := hide hk1
  have HK2 := hide hk2
  clear hk1 hk2
  go_region
  have hk1 : Blk ((((W.setCell ⟨w.heap.size, 0, none⟩ (.int .i64 A)).setCell ⟨w.heap.size, 1, none⟩ (.int .i64 B)).setCell ⟨w.heap.size + 1, 0, none⟩ (.int .i64 C)).setCell ⟨w.heap.size + 1, 1, none⟩ (.int .i64 D)).drew w.heap.size (tcells A B s) 25 :=
    ((((HK1.out.set 0 (.int .i64 A)).set 1 (.int .i64 B)).kept (grown_setCell _ _ _ _) (by simp)).kept (grown_setCell _ _ _ _) (by simp)).kept (grown_drew _ none) (by simp)
  have hk2 : Blk ((((W.setCell ⟨w.heap.size, 0, none⟩ (.int .i64 A)).setCell ⟨w.heap.size, 1, none⟩ (.int .i64 B)).setCell ⟨w.heap.size + 1, 0, none⟩ (.int .i64 C)).setCell ⟨w.heap.size + 1, 1, none⟩ (.int .i64 D)).drew (w.heap.size + 1) (tcells C D t) 25 :=
    ((((HK2.out.kept (grown_setCell _ _ _ _) (by simp)).kept (grown_setCell _ _ _ _) (by simp)).set 0 (.int .i64 C)).set 1 (.int .i64 D)).kept (grown_drew _ none) (by simp)
  have hb1 : Below w.heap.size w ((((W.setCell ⟨w.heap.size, 0, none⟩ (.int .i64 A)).setCell ⟨w.heap.size, 1, none⟩ (.int .i64 B)).setCell ⟨w.heap.size + 1, 0, none⟩ (.int .i64 C)).setCell ⟨w.heap.size + 1, 1, none⟩ (.int .i64 D)).drew :=
    ((((hb0.setCell (Nat.le_refl _) _).setCell (Nat.le_refl _) _).setCell (Nat.le_succ _) _).setCell (Nat.le_succ _) _).drew
  generalize ((((W.setCell ⟨w.heap.size, 0, none⟩ (.int .i64 A)).setCell ⟨w.heap.size, 1, none⟩ (.int .i64 B)).setCell ⟨w.heap.size + 1, 0, none⟩ (.int .i64 C)).setCell ⟨w.heap.size + 1, 1, none⟩ (.int .i64 D)).drew = W1 at *
  obtain ⟨c0', c1', c2'⟩ := hk1.tag'
  have HK1' := hide hk1
  have HK2' := hide hk2
  clear hA hB hC hD HK1 HK2 hk1 hk2 c0 c1 d0 d1 f0 f1 g0 g1 hb0
  go_wp2_with fail
  refine (Write_any W1 A B s hs).mono ?_
  rintro e W2 ⟨x, rfl, hx, hb2⟩
  rw [show writeS A B s = (tagW A B s, 0) by simp [writeS, HA.out, HB.out]] at hx ⊢
  have HX2 := hide hx
  have HK1 := hide (HK1'.out.below hb2 HK1'.out.lt)
  have HK2 := hide (HK2'.out.below hb2 HK2'.out.lt)
  have hB2 : Below w.heap.size w W2 := hb1.trans (hb2.mono hb1.size)
  clear hx HK1' HK2' c0' c1' c2' hb2 hb1
  obtain ⟨d0', d1', d2'⟩ := HK2.out.tag'
  go_wp2_with fail
  refine (Write_any W2 C D t ht).mono ?_
  rintro e W3 ⟨y, rfl, hy, hb3⟩
  rw [show writeS C D t = (tagW C D t, 0) by simp [writeS, HC.out, HD.out]] at hy ⊢
  have HY3 := hide hy
  have HX3 := hide (HX2.out.kept hb3)
  have HK1' := hide (HK1.out.below hb3 HK1.out.lt)
  have HK2' := hide (HK2.out.below hb3 HK2.out.lt)
  have hB3 : Below w.heap.size w W3 := hB2.trans (hb3.mono hB2.size)
  clear hy HX2 HK1 HK2 d0' d1' d2' hb3 hB2
  have HSS := hide (fun w' hb => EachS_of (w' := w') HK1'.out HK2'.out HX3.out.row HY3.out.row hb)
  have hfin : ((strOfNums (tagW A B s)).toList == (strOfNums (tagW C D t)).toList) = (decide (A = C ∧ B = D ∧ s = t)) := by
    rw [text_beq (tagW_bys _ _ _) (tagW_bys _ _ _)]
    by_cases h : A = C ∧ B = D ∧ s = t
    · obtain ⟨rfl, rfl, rfl⟩ := h
      simp
    · rw [decide_eq_false h, decide_eq_false]
      exact fun e => h (tagW_inj HA.out HB.out hs HC.out HD.out ht e)
  have hparts : (A = C ∧ B = D ∧ s = t) ∨ ((A == C) = false ∧ ¬ (A = C ∧ B = D ∧ s = t)) ∨ (A = C ∧ (B == D) = false ∧ ¬ (A = C ∧ B = D ∧ s = t)) ∨ (A = C ∧ B = D ∧ (s == t) = false ∧ ¬ (A = C ∧ B = D ∧ s = t)) := by
    by_cases h1 : A = C
    · by_cases h2 : B = D
      · by_cases h3 : s = t
        · exact .inl ⟨h1, h2, h3⟩
        · exact .inr (.inr (.inr ⟨h1, h2, beq_eq_false_iff_ne.2 h3, fun h => h3 h.2.2⟩))
      · exact .inr (.inr (.inl ⟨h1, beq_eq_false_iff_ne.2 h2, fun h => h2 h.2.1⟩))
    · exact .inr (.inl ⟨beq_eq_false_iff_ne.2 h1, fun h => h1 h.1⟩)
  have HF := hide hfin
  clear hfin HA HB HC HD HK1' HK2' HX3 HY3
  unfold EachS at HSS
  rcases hparts with ⟨rfl, rfl, rfl⟩ | ⟨h1, h4⟩ | ⟨rfl, h2, h4⟩ | ⟨rfl, rfl, h3, h4⟩
  · go_wp2_with fail
    go_region_held3 (fun w' => ((w'.cell? ⟨w.heap.size, 0, none⟩ = some (.int .i64 A) ∧ w'.cell? ⟨w.heap.size, 1, none⟩ = some (.int .i64 B) ∧ w'.cell? ⟨w.heap.size, 2, none⟩ = some (.int .u32 s)) ∧
    (w'.cell? ⟨w.heap.size + 1, 0, none⟩ = some (.int .i64 A) ∧ w'.cell? ⟨w.heap.size + 1, 1, none⟩ = some (.int .i64 B) ∧ w'.cell? ⟨w.heap.size + 1, 2, none⟩ = some (.int .u32 s)) ∧
    (convert 22 9 x).run Try.prog w' = .ok (.string (strOfNums (tagW A B s))) w' ∧ (convert 22 9 y).run Try.prog w' = .ok (.string (strOfNums (tagW A B s))) w') ∧ Below W3.heap.size W3 w')
      (first
        | assumption
        | exact HSS.out _ ((Below.refl _ _).drew)
        | exact HSS.out _ ((held_below (by assumption)).trans (hb5.mono (held_size (by assumption)))))
      (first
        | (go_at_call 7; refine (awake_any _).mono ?_; rintro e w5 ⟨rfl, hb5⟩))
    all_goals
      have hBe := hB3.trans ((held_below (by assumption)).mono hB3.size)
      go_wp2
      go_ret
      refine ⟨ret_one ?_, hBe⟩
      first
        | rfl
        | (show Value.bool ((strOfNums (tagW A B s)).toList == (strOfNums (tagW A B s)).toList) = _; rw [HF.out]; simp)
  · go_wp2_with fail
    go_region_held3 (fun w' => ((w'.cell? ⟨w.heap.size, 0, none⟩ = some (.int .i64 A) ∧ w'.cell? ⟨w.heap.size, 1, none⟩ = some (.int .i64 B) ∧ w'.cell? ⟨w.heap.size, 2, none⟩ = some (.int .u32 s)) ∧
    (w'.cell? ⟨w.heap.size + 1, 0, none⟩ = some (.int .i64 C) ∧ w'.cell? ⟨w.heap.size + 1, 1, none⟩ = some (.int .i64 D) ∧ w'.cell? ⟨w.heap.size + 1, 2, none⟩ = some (.int .u32 t)) ∧
    (convert 22 9 x).run Try.prog w' = .ok (.string (strOfNums (tagW A B s))) w' ∧ (convert 22 9 y).run Try.prog w' = .ok (.string (strOfNums (tagW C D t))) w') ∧ Below W3.heap.size W3 w')
      (first
        | assumption
        | exact HSS.out _ ((Below.refl _ _).drew)
        | exact HSS.out _ ((held_below (by assumption)).trans (hb5.mono (held_size (by assumption)))))
      (first
        | (go_at_call 7; refine (awake_any _).mono ?_; rintro e w5 ⟨rfl, hb5⟩))
    all_goals
      have hBe := hB3.trans ((held_below (by assumption)).mono hB3.size)
      go_wp2
      go_ret
      refine ⟨ret_one ?_, hBe⟩
      show Value.bool (!((strOfNums (tagW A B s)).toList == (strOfNums (tagW C D t)).toList)) = Value.bool true
      rw [HF.out, decide_eq_false h4]
      rfl
  · go_wp2_with fail
    go_region_held3 (fun w' => ((w'.cell? ⟨w.heap.size, 0, none⟩ = some (.int .i64 A) ∧ w'.cell? ⟨w.heap.size, 1, none⟩ = some (.int .i64 B) ∧ w'.cell? ⟨w.heap.size, 2, none⟩ = some (.int .u32 s)) ∧
    (w'.cell? ⟨w.heap.size + 1, 0, none⟩ = some (.int .i64 A) ∧ w'.cell? ⟨w.heap.size + 1, 1, none⟩ = some (.int .i64 D) ∧ w'.cell? ⟨w.heap.size + 1, 2, none⟩ = some (.int .u32 t)) ∧
    (convert 22 9 x).run Try.prog w' = .ok (.string (strOfNums (tagW A B s))) w' ∧ (convert 22 9 y).run Try.prog w' = .ok (.string (strOfNums (tagW A D t))) w') ∧ Below W3.heap.size W3 w')
      (first
        | assumption
        | exact HSS.out _ ((Below.refl _ _).drew)
        | exact HSS.out _ ((held_below (by assumption)).trans (hb5.mono (held_size (by assumption)))))
      (first
        | (go_at_call 7; refine (awake_any _).mono ?_; rintro e w5 ⟨rfl, hb5⟩))
    all_goals
      have hBe := hB3.trans ((held_below (by assumption)).mono hB3.size)
      go_wp2
      go_ret
      refine ⟨ret_one ?_, hBe⟩
      show Value.bool (!((strOfNums (tagW A B s)).toList == (strOfNums (tagW A D t)).toList)) = Value.bool true
      rw [HF.out, decide_eq_false h4]
      rfl
  · go_wp2_with fail
    go_region_held3 (fun w' => ((w'.cell? ⟨w.heap.size, 0, none⟩ = some (.int .i64 A) ∧ w'.cell? ⟨w.heap.size, 1, none⟩ = some (.int .i64 B) ∧ w'.cell? ⟨w.heap.size, 2, none⟩ = some (.int .u32 s)) ∧
    (w'.cell? ⟨w.heap.size + 1, 0, none⟩ = some (.int .i64 A) ∧ w'.cell? ⟨w.heap.size + 1, 1, none⟩ = some (.int .i64 B) ∧ w'.cell? ⟨w.heap.size + 1, 2, none⟩ = some (.int .u32 t)) ∧
    (convert 22 9 x).run Try.prog w' = .ok (.string (strOfNums (tagW A B s))) w' ∧ (convert 22 9 y).run Try.prog w' = .ok (.string (strOfNums (tagW A B t))) w') ∧ Below W3.heap.size W3 w')
      (first
        | assumption
        | exact HSS.out _ ((Below.refl _ _).drew)
        | exact HSS.out _ ((held_below (by assumption)).trans (hb5.mono (held_size (by assumption)))))
      (first
        | (go_at_call 7; refine (awake_any _).mono ?_; rintro e w5 ⟨rfl, hb5⟩))
    all_goals
      have hBe := hB3.trans ((held_below (by assumption)).mono hB3.size)
      go_wp2
      go_ret
      refine ⟨ret_one ?_, hBe⟩
      show Value.bool (!((strOfNums (tagW A B s)).toList == (strOfNums (tagW A B t)).toList)) = Value.bool true
      rw [HF.out, decide_eq_false h4]
      rfl
end Go.Proofs.Ytfacmeblldljdaa
