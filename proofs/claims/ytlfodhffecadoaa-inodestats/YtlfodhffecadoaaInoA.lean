/-
  Inodes: the map of forms, its look-up; forms.
-/
import Derived.BigRegion
import Derived.Test.YtlfodhffecadoaaSays
import Derived.Test.YtlfodhffecadoaaInoP
import Derived.Test.YtlfodhffecadoaaPowA
import Derived.Test.YtlfodhffecadoaaHoldL
namespace Go.Proofs.Ytlfodhffecadoaa
open Go.RowKit Go.Maps
set_option linter.unusedVariables false
set_option maxRecDepth 100000

def asItI (v : Value) : Option (DataW Value × List MemPlace) := some (.held v, [])
def kindK (i : Int) : Lit := .string (keyBytes [.int .i64 i])
theorem keyedKd : Keyed Try.prog 57 := Keyed.of_law (deep_law_laid (by kernel_rfl) (m := 2) (by omega) (of_decide_eq_true (by kernel_rfl)) (by kernel_rfl) (by kernel_rfl))
theorem keyOf_kd (a : Int) (h : (Lit.int .i64 a).wf = true) : keyOf Try.prog 57 (.agg #[.int .i64 a]) = some (kindK a) :=
  keyOf_one (n := 90) Try.underlying57 rfl Try.underlying3 (by kernel_rfl) (by kernel_rfl) (by decide) (by kernel_rfl) (by kernel_rfl) a h
theorem kindK_inj {a b : Int} (ha : (Lit.int .i64 a).wf = true) (hb : (Lit.int .i64 b).wf = true) (h : kindK a = kindK b) : a = b := by
  have := keyedKd.inj (keyOf_kd a ha) (h ▸ keyOf_kd b hb)
  simpa using this

/-- The form of a kind. -/
def formV (own : Int) (f : FuncId) : Value := .agg #[.int .i64 own, .func (.func f) #[] #[]]
def noForm : Value := .agg #[.int .i64 0, .nilFunc]
def formOf (k : Int) : Value := if k = 1 then formV 0 33 else if k = 2 then formV 1 34 else if k = 3 then formV 0 35 else noForm
theorem zeroForm (w : World) : (zeroValue 53).run Try.prog w = .ok noForm w := by kernel_rfl

def pickV (o : Option Value) (z : DataW Value) : DataW Value := match o with
  | some v => .held v
  | none => z
/-- The map in block b holds f, at numbers. -/
def KMap (w : World) (b n : Nat) (f : Int → Option Value) : Prop :=
  ∃ D, w.ownsMap (H := Value) Try.prog 57 asItI b n D ∧ ∀ i : Int, (Lit.int .i64 i).wf = true → ∀ z, D.atKey (kindK i) z = pickV (f i) z
theorem KMap.lt {w : World} {b n : Nat} {f : Int → Option Value} (h : KMap w b n f) : b < w.heap.size := by obtain ⟨D, h, _⟩ := h; exact h.lt
theorem KMap.kept {w w' : World} {b n : Nat} {f : Int → Option Value} {r : Option Nat} (h : KMap w b n f) (hg : w.grownBy w' r) (hb : some b ≠ r) : KMap w' b n f := by
  obtain ⟨D, h1, h2⟩ := h
  exact ⟨D, h1.kept hg hb, h2⟩
theorem KMap.below {w w' : World} {b n : Nat} {f : Int → Option Value} (h : KMap w b n f) (hb : Below w.heap.size w w') : KMap w' b n f := h.kept (below_grown hb none) (by simp)
theorem KMap.drew {w : World} {b n : Nat} {f : Int → Option Value} (h : KMap w b n f) : KMap w.drew b n f := h.kept (grown_drew w none) (by simp)
theorem KMap.congr {w : World} {b n : Nat} {f g : Int → Option Value} (h : KMap w b n f) (hf : ∀ i, f i = g i) : KMap w b n g := by
  obtain ⟨D, h1, h2⟩ := h
  exact ⟨D, h1, fun s hs z => by rw [← hf]; exact h2 s hs z⟩
theorem KMap.made (w : World) : KMap (w.alloc (.map #[] 0)) w.heap.size 0 (fun _ => none) := ⟨_, World.ownsMap_made _ _ _ _, fun s _ z => rfl⟩
theorem KMap.look {w : World} {b n : Nat} {f : Int → Option Value} (h : KMap w b n f) (i : Int) (hi : (Lit.int .i64 i).wf = true) :
    (Instr.lookup 54 (.map (some b)) (.agg #[.int .i64 i]) true).run Try.prog w = .ok (.tuple #[(f i).getD noForm, .bool (f i).isSome]) w := by
  obtain ⟨D, h1, h2⟩ := h
  obtain ⟨v, ps, hrun, hv⟩ := h1.look_ok keyedKd Try.underlying54 (zeroForm w) (zd := .held noForm) (zp := []) rfl (keyOf_kd i hi)
  have hat := h2 i hi
  rw [hrun]
  rw [hat] at hv
  cases hf : f i with
  | none =>
    rw [hf] at hat hv
    simp only [pickV] at hat hv
    rw [has_false_of_atKey (fun z => hat z)]
    simp [asItI] at hv
    simp [hv.1]
  | some u =>
    rw [hf] at hat hv
    simp only [pickV] at hat hv
    rw [has_true_of_atKey (fun z => hat z)]
    simp [asItI] at hv
    simp [hv.1]
theorem KMap.get {w : World} {b n : Nat} {f : Int → Option Value} (h : KMap w b n f) (i : Int) (hi : (Lit.int .i64 i).wf = true) :
    (Instr.lookup 54 (.map (some b)) (.agg #[.int .i64 i]) false).run Try.prog w = .ok ((f i).getD noForm) w := by
  obtain ⟨D, h1, h2⟩ := h
  obtain ⟨v, ps, hrun, hv⟩ := h1.lookup keyedKd Try.underlying54 (zeroForm w) (zd := .held noForm) (zp := []) rfl (keyOf_kd i hi)
  rw [hrun]
  rw [h2 i hi] at hv
  cases hf : f i with
  | none => rw [hf] at hv; simp [asItI, pickV] at hv; simp [hv.1]
  | some u => rw [hf] at hv; simp [asItI, pickV] at hv; simp [hv.1]
def updK (f : Int → Option Value) (k : Int) (v : Value) : Int → Option Value := fun i => if i = k then some v else f i
theorem KMap.put {w : World} {b n : Nat} {f : Int → Option Value} (h : KMap w b n f) (hn : n < 10000000) (k : Int) (hk : (Lit.int .i64 k).wf = true) (v : Value) :
    ∃ w', (Instr.mapUpdate 54 (.map (some b)) (.agg #[.int .i64 k]) v).run Try.prog w = .ok () w' ∧ KMap w' b (n + 1) (updK f k v) ∧ w.grownBy w' (some b) := by
  obtain ⟨D, h1, h2⟩ := h
  have hm := h1.isMap
  obtain ⟨w', hrun, r1, r2⟩ := h1.update keyedKd Try.underlying54 (by unfold maxLen; omega) (keyOf_kd k hk) (show asItI v = some (.held v, []) from rfl)
  refine ⟨w', hrun, ⟨_, r1, ?_⟩, r2⟩
  intro t ht z
  unfold updK
  by_cases e : t = k
  · subst e
    rw [if_pos rfl, atKey_put_same hm (show WideAt.IsKeyLit (kindK t) from trivial)]
    rfl
  · rw [if_neg e, atKey_put_other (fun e2 => e (kindK_inj ht hk e2))]
    exact h2 t ht z

/-- What forms answers. -/
def kindsF : Int → Option Value := fun k => if k = 1 then some (formV 0 33) else if k = 2 then some (formV 1 34) else if k = 3 then some (formV 0 35) else none
theorem run_makeKd (w : World) : (Instr.makeMap 54 none).run Try.prog w = .ok (.map (some w.heap.size)) (w.alloc (.map #[] 0)) := by
  simp [Instr.makeMap, Result.andThen, newObj]
  rfl

theorem kinds_123 (i : Int) : (updK (updK (updK (fun _ => none) 1 (.agg #[.int .i64 0, .func (.func 33) #[] #[]])) 2 (.agg #[.int .i64 1, .func (.func 34) #[] #[]])) 3 (.agg #[.int .i64 0, .func (.func 35) #[] #[]])) i = kindsF i := by
  unfold updK kindsF formV
  by_cases h1 : i = 1
  · subst h1; simp
  · by_cases h2 : i = 2
    · subst h2; simp
    · by_cases h3 : i = 3
      · subst h3; simp
      · simp [h1, h2, h3]
theorem kinds_132 (i : Int) : (updK (updK (updK (fun _ => none) 1 (.agg #[.int .i64 0, .func (.func 33) #[] #[]])) 3 (.agg #[.int .i64 0, .func (.func 35) #[] #[]])) 2 (.agg #[.int .i64 1, .func (.func 34) #[] #[]])) i = kindsF i := by
  unfold updK kindsF formV
  by_cases h1 : i = 1
  · subst h1; simp
  · by_cases h2 : i = 2
    · subst h2; simp
    · by_cases h3 : i = 3
      · subst h3; simp
      · simp [h1, h2, h3]
theorem kinds_213 (i : Int) : (updK (updK (updK (fun _ => none) 2 (.agg #[.int .i64 1, .func (.func 34) #[] #[]])) 1 (.agg #[.int .i64 0, .func (.func 33) #[] #[]])) 3 (.agg #[.int .i64 0, .func (.func 35) #[] #[]])) i = kindsF i := by
  unfold updK kindsF formV
  by_cases h1 : i = 1
  · subst h1; simp
  · by_cases h2 : i = 2
    · subst h2; simp
    · by_cases h3 : i = 3
      · subst h3; simp
      · simp [h1, h2, h3]
theorem kinds_231 (i : Int) : (updK (updK (updK (fun _ => none) 2 (.agg #[.int .i64 1, .func (.func 34) #[] #[]])) 3 (.agg #[.int .i64 0, .func (.func 35) #[] #[]])) 1 (.agg #[.int .i64 0, .func (.func 33) #[] #[]])) i = kindsF i := by
  unfold updK kindsF formV
  by_cases h1 : i = 1
  · subst h1; simp
  · by_cases h2 : i = 2
    · subst h2; simp
    · by_cases h3 : i = 3
      · subst h3; simp
      · simp [h1, h2, h3]
theorem kinds_312 (i : Int) : (updK (updK (updK (fun _ => none) 3 (.agg #[.int .i64 0, .func (.func 35) #[] #[]])) 1 (.agg #[.int .i64 0, .func (.func 33) #[] #[]])) 2 (.agg #[.int .i64 1, .func (.func 34) #[] #[]])) i = kindsF i := by
  unfold updK kindsF formV
  by_cases h1 : i = 1
  · subst h1; simp
  · by_cases h2 : i = 2
    · subst h2; simp
    · by_cases h3 : i = 3
      · subst h3; simp
      · simp [h1, h2, h3]
theorem kinds_321 (i : Int) : (updK (updK (updK (fun _ => none) 3 (.agg #[.int .i64 0, .func (.func 35) #[] #[]])) 2 (.agg #[.int .i64 1, .func (.func 34) #[] #[]])) 1 (.agg #[.int .i64 0, .func (.func 33) #[] #[]])) i = kindsF i := by
  unfold updK kindsF formV
  by_cases h1 : i = 1
  · subst h1; simp
  · by_cases h2 : i = 2
    · subst h2; simp
    · by_cases h3 : i = 3
      · subst h3; simp
      · simp [h1, h2, h3]
theorem hb0s {w : World} {b n : Nat} {f : Int → Option Value} (B : Nat) (h : KMap w b n f) (e : B = b := by rfl) : B ≤ w.heap.size := by have := h.lt; omega

set_option maxHeartbeats 2000000 in
theorem forms_any (w : World) : Calls Try.prog 21 #[] w fun e w' => e = .returned (.map (some w.heap.size)) ∧ KMap w' w.heap.size 3 kindsF ∧ Below w.heap.size w w' := by
  have hm := run_makeKd w.drew
  have h0 := KMap.made w.drew
  have hb0 : Below w.heap.size w (w.drew.alloc (.map #[] 0)) := kl_step (kl_alloc w.drew _) (kl_drew w)
  have es : w.drew.heap.size = w.heap.size := rfl
  rw [es] at hm h0
  generalize w.drew.alloc (.map #[] 0) = w0 at *
  obtain ⟨w1, e1, h1, g1⟩ := h0.put (by decide) 1 (by decide) (formV 0 33)
  obtain ⟨w12, e12, h12, g12⟩ := h1.put (by decide) 2 (by decide) (formV 1 34)
  obtain ⟨w123, e123, h123, g123⟩ := h12.put (by decide) 3 (by decide) (formV 0 35)
  obtain ⟨w13, e13, h13, g13⟩ := h1.put (by decide) 3 (by decide) (formV 0 35)
  obtain ⟨w132, e132, h132, g132⟩ := h13.put (by decide) 2 (by decide) (formV 1 34)
  obtain ⟨w2, e2, h2, g2⟩ := h0.put (by decide) 2 (by decide) (formV 1 34)
  obtain ⟨w21, e21, h21, g21⟩ := h2.put (by decide) 1 (by decide) (formV 0 33)
  obtain ⟨w213, e213, h213, g213⟩ := h21.put (by decide) 3 (by decide) (formV 0 35)
  obtain ⟨w23, e23, h23, g23⟩ := h2.put (by decide) 3 (by decide) (formV 0 35)
  obtain ⟨w231, e231, h231, g231⟩ := h23.put (by decide) 1 (by decide) (formV 0 33)
  obtain ⟨w3, e3, h3, g3⟩ := h0.put (by decide) 3 (by decide) (formV 0 35)
  obtain ⟨w31, e31, h31, g31⟩ := h3.put (by decide) 1 (by decide) (formV 0 33)
  obtain ⟨w312, e312, h312, g312⟩ := h31.put (by decide) 2 (by decide) (formV 1 34)
  obtain ⟨w32, e32, h32, g32⟩ := h3.put (by decide) 2 (by decide) (formV 1 34)
  obtain ⟨w321, e321, h321, g321⟩ := h32.put (by decide) 1 (by decide) (formV 0 33)
  have HB := hide hb0
  clear hb0 es
  simp only [formV] at *
  have F123 := hide (show w123 = w123 ∧ KMap w123 w.heap.size 3 kindsF ∧ Below w.heap.size w w123 from ⟨rfl, (h123.congr kinds_123), ((HB.out.grown g1 (hb0s _ h0) (fun k e => by cases e; exact Nat.le_refl _)).grown g12 (hb0s _ h1) (fun k e => by cases e; exact Nat.le_refl _)).grown g123 (hb0s _ h12) (fun k e => by cases e; exact Nat.le_refl _)⟩)
  have F132 := hide (show w132 = w132 ∧ KMap w132 w.heap.size 3 kindsF ∧ Below w.heap.size w w132 from ⟨rfl, (h132.congr kinds_132), ((HB.out.grown g1 (hb0s _ h0) (fun k e => by cases e; exact Nat.le_refl _)).grown g13 (hb0s _ h1) (fun k e => by cases e; exact Nat.le_refl _)).grown g132 (hb0s _ h13) (fun k e => by cases e; exact Nat.le_refl _)⟩)
  have F213 := hide (show w213 = w213 ∧ KMap w213 w.heap.size 3 kindsF ∧ Below w.heap.size w w213 from ⟨rfl, (h213.congr kinds_213), ((HB.out.grown g2 (hb0s _ h0) (fun k e => by cases e; exact Nat.le_refl _)).grown g21 (hb0s _ h2) (fun k e => by cases e; exact Nat.le_refl _)).grown g213 (hb0s _ h21) (fun k e => by cases e; exact Nat.le_refl _)⟩)
  have F231 := hide (show w231 = w231 ∧ KMap w231 w.heap.size 3 kindsF ∧ Below w.heap.size w w231 from ⟨rfl, (h231.congr kinds_231), ((HB.out.grown g2 (hb0s _ h0) (fun k e => by cases e; exact Nat.le_refl _)).grown g23 (hb0s _ h2) (fun k e => by cases e; exact Nat.le_refl _)).grown g231 (hb0s _ h23) (fun k e => by cases e; exact Nat.le_refl _)⟩)
  have F312 := hide (show w312 = w312 ∧ KMap w312 w.heap.size 3 kindsF ∧ Below w.heap.size w w312 from ⟨rfl, (h312.congr kinds_312), ((HB.out.grown g3 (hb0s _ h0) (fun k e => by cases e; exact Nat.le_refl _)).grown g31 (hb0s _ h3) (fun k e => by cases e; exact Nat.le_refl _)).grown g312 (hb0s _ h31) (fun k e => by cases e; exact Nat.le_refl _)⟩)
  have F321 := hide (show w321 = w321 ∧ KMap w321 w.heap.size 3 kindsF ∧ Below w.heap.size w w321 from ⟨rfl, (h321.congr kinds_321), ((HB.out.grown g3 (hb0s _ h0) (fun k e => by cases e; exact Nat.le_refl _)).grown g32 (hb0s _ h3) (fun k e => by cases e; exact Nat.le_refl _)).grown g321 (hb0s _ h32) (fun k e => by cases e; exact Nat.le_refl _)⟩)
  clear h0 h1 g1 h2 g2 h3 g3 h12 g12 h13 g13 h21 g21 h23 g23 h31 g31 h32 g32 h123 g123 h132 g132 h213 g213 h231 g231 h312 g312 h321 g321 
  go_enter Try.func21, Try.ntmps21
  go_wp2_with fail
  go_region
  all_goals go_wp2
  all_goals go_ret
  all_goals first
    | exact ⟨rfl, F123.out.2⟩
    | exact ⟨rfl, F132.out.2⟩
    | exact ⟨rfl, F213.out.2⟩
    | exact ⟨rfl, F231.out.2⟩
    | exact ⟨rfl, F312.out.2⟩
    | exact ⟨rfl, F321.out.2⟩
end Go.Proofs.Ytlfodhffecadoaa
