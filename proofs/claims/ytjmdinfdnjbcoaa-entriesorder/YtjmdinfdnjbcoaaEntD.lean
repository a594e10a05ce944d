/-
  Entries: the map of names; slices.Backward; places.
-/
import Derived.RangeFuncNested
import Derived.RangeFuncBound
import Derived.RangeFuncCalls
import Derived.RangeFuncLeaves
import Derived.Shelf.Abstract
import Derived.Shelf.RegionOpen
import Derived.WalkKit
import Derived.OwnWalkIn
import Derived.TacticsInMore
import Derived.LoopNIn
import Derived.LoopIn
import Derived.Maps.OwnIn
import Derived.Test.YtjmdinfdnjbcoaaEntC
import Derived.Test.YtjmdinfdnjbcoaaPowA
namespace Go.Proofs.Ytjmdinfdnjbcoaa
open Go.RowKit Go.Maps Go.Shelf
set_option linter.unusedVariables false
set_option maxRecDepth 100000

/-! ### the map of names -/
def asItE (v : Value) : Option (DataW Value × List MemPlace) := some (.held v, [])
def nameK (s : ByteArray) : Lit := .string (keyBytes [.string s.data.toList])
theorem keyedNm : Keyed Try.prog 48 := Keyed.of_law (deep_law_laid (by kernel_rfl) (m := 2) (by omega) (of_decide_eq_true (by kernel_rfl)) (by kernel_rfl) (by kernel_rfl))
theorem keyOf_text {P : Program} {k : TypeId} {f : Field} {n : Nat} (hk : P.underlying k = some (.struct #[f])) (ho : f.offset = 0) (hi : P.underlying f.type = some .string) (hc : P.cellsOf k = 1) (hc1 : P.cellsOf f.type = 1)
    (hn : (f.name != "_") = true) (hkt : P.keyType k = true) (hsz : P.types.size = n + 1) (s : ByteArray) (h : s.size ≤ maxLen) : keyOf P k (.agg #[.string s]) = some (nameK s) := by
  have hf : (Value.agg #[.string s]).formed P k = true := by simp [Value.formed, hk, hc]
  have h1 : P.keyLits (n + 1) f.type [.string s] = some [.string s.data.toList] := by simp [Program.keyLits, hi, h]
  have h2 : P.keyLits (n + 2) k [.string s] = some [.string s.data.toList] := by
    unfold Program.keyLits
    simp [hk, hc, hc1, ho, hn, h1]
  unfold keyOf nameK
  simp [hk, hkt, hf, hsz, Value.cells, h2]
theorem keyOf_nm (s : ByteArray) (h : s.size ≤ maxLen) : keyOf Try.prog 48 (.agg #[.string s]) = some (nameK s) :=
  keyOf_text (n := 81) Try.underlying48 rfl Try.underlying9 (by kernel_rfl) (by kernel_rfl) (by decide) (by kernel_rfl) (by kernel_rfl) s h
theorem nameK_inj {a b : ByteArray} (ha : a.size ≤ maxLen) (hb : b.size ≤ maxLen) (h : nameK a = nameK b) : a = b := by
  have := keyedNm.inj (keyOf_nm a ha) (h ▸ keyOf_nm b hb)
  simpa using this

/-- What stands there, or z. -/
def pickN (o : Option Nat) (z : DataW Value) : DataW Value := match o with
  | some i => .held (.int .i64 i)
  | none => z
/-- The map in block b holds f, at texts. -/
def NMap (w : World) (b n : Nat) (f : List UInt8 → Option Nat) : Prop :=
  ∃ D, w.ownsMap (H := Value) Try.prog 48 asItE b n D ∧ ∀ s : ByteArray, s.size ≤ maxLen → ∀ z, D.atKey (nameK s) z = pickN (f (bl s)) z
theorem NMap.lt {w : World} {b n : Nat} {f : List UInt8 → Option Nat} (h : NMap w b n f) : b < w.heap.size := by obtain ⟨D, h, _⟩ := h; exact h.lt
theorem NMap.kept {w w' : World} {b n : Nat} {f : List UInt8 → Option Nat} {r : Option Nat} (h : NMap w b n f) (hg : w.grownBy w' r) (hb : some b ≠ r) : NMap w' b n f := by
  obtain ⟨D, h1, h2⟩ := h
  exact ⟨D, h1.kept hg hb, h2⟩
theorem NMap.below {w w' : World} {b n : Nat} {f : List UInt8 → Option Nat} (h : NMap w b n f) (hb : Below w.heap.size w w') : NMap w' b n f := h.kept (below_grown hb none) (by simp)
theorem NMap.congr {w : World} {b n : Nat} {f g : List UInt8 → Option Nat} (h : NMap w b n f) (hf : ∀ s, f s = g s) : NMap w b n g := by
  obtain ⟨D, h1, h2⟩ := h
  exact ⟨D, h1, fun s hs z => by rw [← hf]; exact h2 s hs z⟩
theorem NMap.made (w : World) : NMap (w.alloc (.map #[] 0)) w.heap.size 0 (fun _ => none) := ⟨_, World.ownsMap_made _ _ _ _, fun s _ z => rfl⟩
theorem zeroInt11 (w : World) : (zeroValue 3).run Try.prog w = .ok (.int .i64 0) w := by kernel_rfl
theorem NMap.look {w : World} {b n : Nat} {f : List UInt8 → Option Nat} (h : NMap w b n f) (s : ByteArray) (hs : s.size ≤ maxLen) :
    (Instr.lookup 45 (.map (some b)) (.agg #[.string s]) true).run Try.prog w = .ok (.tuple #[.int .i64 (((f (bl s)).getD 0 : Nat) : Int), .bool (f (bl s)).isSome]) w := by
  obtain ⟨D, h1, h2⟩ := h
  obtain ⟨v, ps, hrun, hv⟩ := h1.look_ok keyedNm Try.underlying45 (zeroInt11 w) (zd := .held (.int .i64 0)) (zp := []) rfl (keyOf_nm s hs)
  have hat := h2 s hs
  rw [hrun]
  rw [hat] at hv
  cases hf : f (bl s) with
  | none =>
    rw [hf] at hat hv
    simp only [pickN] at hat hv
    rw [has_false_of_atKey (fun z => hat z)]
    simp [asItE] at hv
    simp [hv.1]
  | some u =>
    rw [hf] at hat hv
    simp only [pickN] at hat hv
    rw [has_true_of_atKey (fun z => hat z)]
    simp [asItE] at hv
    simp [hv.1]
def updN (f : List UInt8 → Option Nat) (s : List UInt8) (i : Nat) : List UInt8 → Option Nat := fun t => if t = s then some i else f t
theorem NMap.put {w : World} {b n : Nat} {f : List UInt8 → Option Nat} (h : NMap w b n f) (hn : n < 10000000) (s : ByteArray) (hs : s.size ≤ maxLen) (i : Nat) :
    ∃ w', (Instr.mapUpdate 45 (.map (some b)) (.agg #[.string s]) (.int .i64 i)).run Try.prog w = .ok () w' ∧ NMap w' b (n + 1) (updN f (bl s) i) ∧ w.grownBy w' (some b) := by
  obtain ⟨D, h1, h2⟩ := h
  have hm := h1.isMap
  obtain ⟨w', hrun, r1, r2⟩ := h1.update keyedNm Try.underlying45 (by unfold maxLen; omega) (keyOf_nm s hs) (show asItE (.int .i64 i) = some (.held (.int .i64 i), []) from rfl)
  refine ⟨w', hrun, ⟨_, r1, ?_⟩, r2⟩
  intro t ht z
  unfold updN
  by_cases e : bl t = bl s
  · obtain rfl := bl_inj e
    rw [if_pos rfl, atKey_put_same hm (show WideAt.IsKeyLit (nameK t) from trivial)]
    rfl
  · rw [if_neg e, atKey_put_other (fun e2 => e (congrArg bl (nameK_inj ht hs e2)))]
    exact h2 t ht z
theorem run_makeNm (n : Int) (w : World) : (Instr.makeMap 45 (some (.int .i64 n))).run Try.prog w = .ok (.map (some w.heap.size)) (w.alloc (.map #[] 0)) := by
  simp [Instr.makeMap, run_underlying Try.underlying45, asInt, Result.andThen, newObj]
  rfl

/-! ### what comes from the end on -/
/-- A place, and an entry. -/
abbrev Pl := { x : Nat × En // x.2.s.size ≤ maxLen }
/-- What the map is when these have come. -/
def putsF (l : List Pl) : List UInt8 → Option Nat := l.foldl (fun f x => updN f (bl x.1.2.s) x.1.1) (fun _ => none)
theorem putsF_snoc (l : List Pl) (x : Pl) : putsF (l ++ [x]) = updN (putsF l) (bl x.1.2.s) x.1.1 := by simp [putsF]
/-- The first one of that name from the j-th on. -/
def fromE (l : List En) (j : Nat) (s : List UInt8) : Option Nat := (atS (l.drop j) s).map (· + j)
theorem fromE_zero (l : List En) (s : List UInt8) : fromE l 0 s = atS l s := by simp [fromE]
theorem fromE_end (l : List En) (s : List UInt8) : fromE l l.length s = none := by simp [fromE, atS_nil]
theorem fromE_step {l : List En} {j : Nat} (h : j < l.length) (s : List UInt8) : fromE l j s = updN (fromE l (j + 1)) (bl (l.getD j default).s) j s := by
  have e : l.getD j default = l[j] := by simp [List.getD, List.getElem?_eq_getElem h]
  unfold fromE updN
  dsimp only
  rw [List.drop_eq_getElem_cons h, atS_cons, e]
  by_cases hs : bl l[j].s = s
  · rw [if_pos hs, if_pos hs.symm]; simp
  · rw [if_neg hs, if_neg (fun h => hs h.symm)]
    cases atS (l.drop (j + 1)) s with
    | none => rfl
    | some a => show some (a + 1 + j) = some (a + (j + 1)); congr 1; omega
/-- These k have come. -/
def BackE (l : List En) (k : Nat) (ps : List Pl) : Prop := ps.length = k ∧ ∀ s, putsF ps s = fromE l (l.length - k) s
theorem BackE.start (l : List En) : BackE l 0 [] := ⟨rfl, fun s => by rw [Nat.sub_zero, fromE_end]; rfl⟩
theorem BackE.more {l : List En} {k : Nat} {ps : List Pl} (h : BackE l k ps) (hk : k < l.length) (x : Pl) (hx : x.1 = (l.length - (k + 1), l.getD (l.length - (k + 1)) default)) : BackE l (k + 1) (ps ++ [x]) := by
  refine ⟨by simp [h.1], fun s => ?_⟩
  rw [putsF_snoc, fromE_step (show l.length - (k + 1) < l.length by omega), hx]
  have e : l.length - (k + 1) + 1 = l.length - k := by omega
  rw [e]
  unfold updN
  rw [h.2 s]

/-! ### slices.Backward -/
attribute [local go_sem] Oper.semAt_some

theorem Backward_any (w : World) (ao : Option Addr) (len cap : Nat) :
    Calls Try.prog 30 #[.slice ao len cap] w fun e w' => e = .returned (.func (.func 35) #[] #[.pointer (some ⟨w.heap.size, 0, none⟩)]) ∧ w' = w.alloc (.cells #[.slice ao len cap] 22) := by
  go_enter Try.func30, Try.ntmps30
  go_wp2
  go_ret
  exact ⟨rfl, rfl⟩

/-- What a round keeps: what lay ahead of the call, and the iterator's own box. -/
def KpE (w0 : World) (B : Nat) (W W' : World) : Prop := Below w0.heap.size W W' ∧ ∀ v t, Boxed W B t v → Boxed W' B t v
theorem KpE.t {w0 : World} {B : Nat} {X Y Z : World} (h : KpE w0 B X Y) (k : KpE w0 B Y Z) : KpE w0 B X Z := ⟨h.1.trans k.1, fun v t hb => k.2 v t (h.2 v t hb)⟩
theorem KpE.b {w0 w : World} {B : Nat} (h0 : w0.heap.size ≤ w.heap.size) (hB : B < w.heap.size) (W : World) (l : Nat) (o o' : Obj) (hl : w.heap.size ≤ l) (h : W.heap[l]? = some o) (hc : o.isCells = false) (hw : o.isWalk = false) : KpE w0 B W (W.putObj l o') :=
  ⟨belowK_b h0 W l o o' hl h hc hw, fun v t hb => hb.kept (grownBy_putObj' W l o') (by simp; omega)⟩

set_option maxHeartbeats 2000000 in
theorem backIt_in (n : Nat) (hn : 1 ≤ n) (l Bs : Nat) (w0 : World) (v : Value) (zs : List En) (h : ERow w0 v zs) (hz : zs.length ≤ 1000000) (J Jx : List Pl → World → Prop)
    (hY : ∀ pre x W, J pre W → pre.length < zs.length → YieldAt Fence.wide (n - 1) Try.prog l #[.int .i64 (x.1.1 : Int), .agg #[.string x.1.2.s, .int .i64 x.1.2.n]] W fun e W' =>
      (e = .returned (.bool true) ∧ J (pre ++ [x]) W' ∧ KpE w0 Bs W W') ∨ (e = .returned (.bool false) ∧ Jx (pre ++ [x]) W'))
    (W : World) (hW : Below w0.heap.size w0 W) (hBs : Boxed W Bs 22 v) (h0 : J [] W) :
    CallsIn Fence.wide n Try.prog 35 #[.func (.yield l) #[] #[], .pointer (some ⟨Bs, 0, none⟩)] W fun e W' => (∃ v, e = .returned v) ∧
      ((∃ ys, BackE zs zs.length ys ∧ J ys W') ∨ (∃ pre, True ∧ Jx pre W')) := by
  have hlr := h.lenRun
  have HR := hide h
  have HY := hide hY
  obtain ⟨len, hL⟩ : ∃ n, zs.length = n := ⟨_, rfl⟩
  have HL := hide hL
  simp only [hL] at hlr
  rw [hL] at hz
  have hc0 := hBs.cell
  clear hL h hY
  refine callsIn_of_wp Try.func35 rfl trivial ?_ rfl
  simp only [Try.ntmps35, List.size_toArray, List.length_cons, List.length_nil, Nat.reduceAdd, Nat.reduceSub, Array.replicate_succ, Array.replicate_zero, List.push_toArray, List.append_toArray, List.nil_append, List.cons_append]
  gi_wp2
  gi_loopw [3] (fun i wr => ∃ (j : Nat) (ps : List Pl), j ≤ len ∧ i = .int .i64 ((j : Int) - 1) ∧ Hid (BackE zs (len - j) ps) ∧ Hid (J ps wr) ∧ Hid (Below w0.heap.size w0 wr) ∧ Boxed wr Bs 22 v)
    (fun i _ => (intOf i + 1).toNat)
  case atStart => exact ⟨len, [], Nat.le_refl _, rfl, by rw [Nat.sub_self]; exact hide (BackE.start zs), hide h0, hide hW, hBs⟩
  case round =>
    obtain ⟨j, ps, hj, rfl, HBE, HJ, HB, hbx⟩ := hrel
    have hcb := hbx.cell
    cases j with
    | zero =>
      gi_wp2
      go_end0
      exact ⟨⟨_, rfl⟩, .inl ⟨ps, by have := HBE.out; rw [HL.out]; simpa using this, HJ.out⟩⟩
    | succ m =>
      have e1 : ((m + 1 : Nat) : Int) - 1 = (m : Int) := by omega
      rw [e1]
      have hml : m < zs.length := by rw [HL.out]; omega
      obtain ⟨b, o, hbs, hix, c0, c1⟩ := (HR.out.below HB.out).idx m hml
      have hwf := HR.out.2 (zs.getD m default) (by rw [show zs.getD m default = zs[m] from by simp [List.getD, List.getElem?_eq_getElem hml]]; exact List.getElem_mem hml)
      have hem : (m, zs.getD m default) = (zs.length - (len - (m + 1) + 1), zs.getD (zs.length - (len - (m + 1) + 1)) default) := by
        rw [HL.out, show len - (len - (m + 1) + 1) = m by omega]
      generalize zs.getD m default = x at *
      have HM := hide (HBE.out.more (show len - (m + 1) < zs.length by rw [HL.out]; omega) ⟨(m, x), hwf.s⟩ hem)
      obtain ⟨fn, tmps, assign, body, hy, hR⟩ := HY.out ps ⟨(m, x), hwf.s⟩ wr HJ.out (by rw [HBE.out.1, HL.out]; omega)
      dsimp only at hy
      gi_wp2
      refine hR.mono ?_
      rintro e W3 (⟨rfl, hJ3, hk3⟩ | ⟨rfl, hJx3⟩)
      · have hb3 := hk3.2 _ _ hbx
        have HB3 := hide (HB.out.trans hk3.1)
        have HJ3 := hide hJ3
        gi_wp2
        go_roundw
        case rel => exact ⟨m, _, by omega, by go_num, by rw [show len - m = len - (m + 1) + 1 by omega]; exact HM, HJ3, HB3, hb3⟩
        case measure => simp [intOf]
      · gi_wp2
        refine bodyPost_ret (results_none rfl _ _ _) rfl ?_
        exact ⟨⟨_, rfl⟩, .inr ⟨_, trivial, hJx3⟩⟩

end Go.Proofs.Ytjmdinfdnjbcoaa
