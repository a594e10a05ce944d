/-
  A map of pages: keyed by block and page; what stands there is a slice, as it is.
-/
import Derived.Test.YthiehpofmlbehaaRep5
import Derived.Test.YthiehpofmlbehaaPowE
namespace Go.Proofs.Ythiehpofmlbehaa
open Go.RowKit Go.Maps
set_option linter.unusedVariables false
set_option maxRecDepth 100000

/-- A value is read as itself. -/
def asItself (v : Value) : Option (DataW Value × List MemPlace) := some (.held v, [])

def pageKey (a b : Int) : Lit := .string (keyBytes [.int .i64 a, .int .i64 b])
theorem keyedPlace : Keyed Try.prog 81 := Keyed.of_law (deep_law_laid (by kernel_rfl) (m := 2) (by omega) (of_decide_eq_true (by kernel_rfl)) (by kernel_rfl) (by kernel_rfl))

theorem keyOf_two {P : Program} {k : TypeId} {f g : Field} {q : IntKind} {n : Nat} (hk : P.underlying k = some (.struct #[f, g])) (ho : f.offset = 0) (ho2 : g.offset = 1) (hi : P.underlying f.type = some (.int q)) (hi2 : P.underlying g.type = some (.int q)) (hc : P.cellsOf k = 2) (hc1 : P.cellsOf f.type = 1) (hc2 : P.cellsOf g.type = 1)
    (hn : (f.name != "_") = true) (hn2 : (g.name != "_") = true) (hkt : P.keyType k = true) (hsz : P.types.size = n + 1) (a b : Int) (h : (Lit.int q a).wf = true) (h2 : (Lit.int q b).wf = true) : keyOf P k (.agg #[.int q a, .int q b]) = some (.string (keyBytes [.int q a, .int q b])) := by
  have hf : (Value.agg #[.int q a, .int q b]).formed P k = true := by simp [Value.formed, hk, hc]
  have l1 : P.keyLits (n + 1) f.type [.int q a] = some [.int q a] := by simp [Program.keyLits, hi, h]
  have l2 : P.keyLits (n + 1) g.type [.int q b] = some [.int q b] := by simp [Program.keyLits, hi2, h2]
  have l3 : P.keyLits (n + 2) k [.int q a, .int q b] = some [.int q a, .int q b] := by
    unfold Program.keyLits
    simp [hk, hc, hc1, hc2, ho, ho2, hn, hn2, l1, l2]
  unfold keyOf
  simp [hk, hkt, hf, hsz, Value.cells, l3]

theorem keyOf_page (a b : Int) (h : (Lit.int .i64 a).wf = true) (h2 : (Lit.int .i64 b).wf = true) : keyOf Try.prog 81 (.agg #[.int .i64 a, .int .i64 b]) = some (pageKey a b) :=
  keyOf_two (n := 114) Try.underlying81 rfl rfl Try.underlying3 Try.underlying3 (by kernel_rfl) (by kernel_rfl) (by kernel_rfl) (by decide) (by decide) (by kernel_rfl) (by kernel_rfl) a b h h2
theorem pageKey_inj {a b c d : Int} (ha : (Lit.int .i64 a).wf = true) (hb : (Lit.int .i64 b).wf = true) (hc : (Lit.int .i64 c).wf = true) (hd : (Lit.int .i64 d).wf = true) (h : pageKey a b = pageKey c d) : a = c ∧ b = d := by
  have := keyedPlace.inj (keyOf_page a b ha hb) (h ▸ keyOf_page c d hc hd)
  simpa using this
theorem wf_nat {i : Nat} (h : i < 1000000) : (Lit.int .i64 (i : Int)).wf = true := wf_i64 (by omega) (by omega)

/-- What stands in the map in block b: f, at small numbers. -/
def PgMap (w : World) (b n : Nat) (f : Nat → Nat → Option Value) : Prop :=
  ∃ D, w.ownsMap (H := Value) Try.prog 81 asItself b n D ∧ ∀ i k : Nat, i < 1000000 → k < 1000000 → ∀ z, D.atKey (pageKey i k) z = match f i k with | some v => .held v | none => z
theorem PgMap.lt {w : World} {b n : Nat} {f : Nat → Nat → Option Value} (h : PgMap w b n f) : b < w.heap.size := by obtain ⟨D, h, _⟩ := h; exact h.lt
theorem PgMap.only {w w' : World} {b n : Nat} {f : Nat → Nat → Option Value} {x : List Nat} (h : PgMap w b n f) (hg : Only x w w') (hb : b ∉ x) : PgMap w' b n f := by
  obtain ⟨D, h1, h2⟩ := h
  have hlt := h1.lt
  obtain ⟨es, clock, hh, r⟩ := h1
  exact ⟨D, ⟨es, clock, (hg.block b hlt hb).trans hh, r⟩, h2⟩
theorem PgMap.more {w : World} {b n m : Nat} {f : Nat → Nat → Option Value} (h : PgMap w b n f) (hm : n ≤ m) : PgMap w b m f := by
  obtain ⟨D, h1, h2⟩ := h
  exact ⟨D, h1.mono hm, h2⟩
theorem PgMap.made (w : World) : PgMap (w.alloc (.map #[] 0)) w.heap.size 0 (fun _ _ => none) := ⟨_, World.ownsMap_made _ _ _ _, fun i k _ _ z => rfl⟩

theorem zeroSlice (w : World) : (zeroValue 43).run Try.prog w = .ok (.slice none 0 0) w := by kernel_rfl
theorem PgMap.look {w : World} {b n : Nat} {f : Nat → Nat → Option Value} (h : PgMap w b n f) (i k : Nat) (hi : i < 1000000) (hk : k < 1000000) :
    (Instr.lookup 66 (.map (some b)) (.agg #[.int .i64 i, .int .i64 k]) true).run Try.prog w = .ok (.tuple #[(f i k).getD (.slice none 0 0), .bool (f i k).isSome]) w := by
  obtain ⟨D, h1, h2⟩ := h
  obtain ⟨v, ps, hrun, hv⟩ := h1.look_ok keyedPlace Try.underlying66 (zeroSlice w) (zd := .held (.slice none 0 0)) (zp := []) rfl (keyOf_page i k (wf_nat hi) (wf_nat hk))
  have hat := h2 i k hi hk
  rw [hrun]
  rw [hat] at hv
  cases hf : f i k with
  | none =>
    rw [hf] at hat hv
    rw [has_false_of_atKey (fun z => hat z)]
    simp [asItself] at hv
    simp [hv.1]
  | some u =>
    rw [hf] at hat hv
    rw [has_true_of_atKey (fun z => hat z)]
    simp [asItself] at hv
    simp [hv.1]
theorem PgMap.look1 {w : World} {b n : Nat} {f : Nat → Nat → Option Value} (h : PgMap w b n f) (i k : Nat) (hi : i < 1000000) (hk : k < 1000000) :
    (Instr.lookup 66 (.map (some b)) (.agg #[.int .i64 i, .int .i64 k]) false).run Try.prog w = .ok ((f i k).getD (.slice none 0 0)) w := by
  obtain ⟨D, h1, h2⟩ := h
  obtain ⟨v, ps, hrun, hv⟩ := h1.lookup keyedPlace Try.underlying66 (zeroSlice w) (zd := .held (.slice none 0 0)) (zp := []) rfl (keyOf_page i k (wf_nat hi) (wf_nat hk))
  have hat := h2 i k hi hk
  rw [hrun]
  rw [hat] at hv
  cases hf : f i k with
  | none =>
    rw [hf] at hat hv
    simp [asItself] at hv
    simp [hv.1]
  | some u =>
    rw [hf] at hat hv
    simp [asItself] at hv
    simp [hv.1]

def put2 (f : Nat → Nat → Option Value) (i k : Nat) (v : Option Value) : Nat → Nat → Option Value := fun a b => if a = i ∧ b = k then v else f a b
theorem PgMap.put {w : World} {b n : Nat} {f : Nat → Nat → Option Value} (h : PgMap w b n f) (hn : n < 1000000) (i k : Nat) (hi : i < 1000000) (hk : k < 1000000) (v : Value) :
    ∃ w', (Instr.mapUpdate 66 (.map (some b)) (.agg #[.int .i64 i, .int .i64 k]) v).run Try.prog w = .ok () w' ∧ PgMap w' b (n + 1) (put2 f i k (some v)) ∧ w.grownBy w' (some b) := by
  obtain ⟨D, h1, h2⟩ := h
  have hm := h1.isMap
  obtain ⟨w', hrun, r1, r2⟩ := h1.update keyedPlace Try.underlying66 (by unfold maxLen; omega) (keyOf_page i k (wf_nat hi) (wf_nat hk)) (show asItself v = some (.held v, []) from rfl)
  refine ⟨w', hrun, ⟨_, r1, ?_⟩, r2⟩
  intro a c ha hc z
  unfold put2
  by_cases e : a = i ∧ c = k
  · obtain ⟨rfl, rfl⟩ := e
    rw [if_pos ⟨rfl, rfl⟩, atKey_put_same hm (show WideAt.IsKeyLit (pageKey a c) from trivial)]
  · rw [if_neg e, atKey_put_other (fun e2 => e (by have := pageKey_inj (wf_nat ha) (wf_nat hc) (wf_nat hi) (wf_nat hk) e2; omega))]
    exact h2 a c ha hc z
theorem PgMap.del {w : World} {b n : Nat} {f : Nat → Nat → Option Value} (h : PgMap w b n f) (i k : Nat) (hi : i < 1000000) (hk : k < 1000000) (ty : TypeId) :
    ∃ w', (Builtin.delete_ #[66, 81] ty #[.map (some b), .agg #[.int .i64 i, .int .i64 k]]).run Try.prog w = .ok (.tuple #[]) w' ∧ PgMap w' b n (put2 f i k none) ∧ w.grownBy w' (some b) := by
  obtain ⟨D, h1, h2⟩ := h
  obtain ⟨w', hrun, r1, r2⟩ := h1.drop keyedPlace Try.underlying66 (keyOf_page i k (wf_nat hi) (wf_nat hk)) ty
  refine ⟨w', hrun, ⟨_, r1, ?_⟩, r2.grown⟩
  intro a c ha hc z
  unfold put2
  by_cases e : a = i ∧ c = k
  · obtain ⟨rfl, rfl⟩ := e
    rw [if_pos ⟨rfl, rfl⟩, atKey_del_same]
  · rw [if_neg e, atKey_del_other (fun e2 => e (by have := pageKey_inj (wf_nat ha) (wf_nat hc) (wf_nat hi) (wf_nat hk) e2; omega))]
    exact h2 a c ha hc z
end Go.Proofs.Ythiehpofmlbehaa
