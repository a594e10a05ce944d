/-
  PackWide: its walk.
-/
import Derived.Test.YtgkmgpjhpplkiaaPackWideB1
namespace Go.Proofs.Ytgkmgpjhpplkiaa
open Go.RowKit
set_option linter.unusedVariables false
set_option maxRecDepth 100000

theorem flat_most {α : Type} (f : α → List Int) (c : Nat) (l : List α) (h : ∀ x ∈ l, (f x).length ≤ c) : (l.flatMap f).length ≤ c * l.length := by
  induction l with
  | nil => simp
  | cons a t ih =>
    have h1 := h a (by simp)
    have h2 := ih (fun x hx => h x (by simp [hx]))
    rw [List.flatMap_cons, List.length_append, List.length_cons, Nat.mul_add]
    omega
theorem in64_wf {v : Int} (h : (Lit.int .i64 v).wf = true) : In64 v := by
  simp [Lit.wf, IntKind.min, IntKind.max, IntKind.signed, IntKind.bits] at h
  unfold In64
  omega
/-- Deeds in a new block. -/
theorem deeds_new (w : World) (l : List Dv) (cs : Array Value) (t : TypeId) (n : Nat) (hn : l.length = n) (hcs : cs.toList = flatD l) (hm : l.length ≤ 1000000) (hw : ∀ r ∈ l, r.Wf) (hr : ∀ r ∈ l, r.Reads w) : DRow (w.alloc (.cells cs t)) (.slice (some ⟨w.heap.size, 0, none⟩) n n) l := by
  subst hn
  refine ⟨⟨⟨_, l.length, rfl, Nat.le_refl _, by unfold maxLen; omega, by simp, fun a ha i r hr j u hu => ?_⟩, hw⟩, fun x hx => (hr x hx).below (kl_alloc _ _)⟩
  obtain rfl := Option.some.inj ha
  have hj : j < 9 := by have := (List.getElem?_eq_some_iff.1 hu).1; simpa [Dv.cells_len] using this
  rw [Addr.add_lit]
  have := (Blk.new w cs t).cell (0 + (i * 9 + j))
  rw [this, Nat.zero_add, ← Array.getElem?_toList, hcs, flatD_at hr j hj, hu]

/-- What the region keeps. -/
def Wide (b0 o0 b1 o1 b2 o2 B : Nat) (no kind links size n q : Int) (t : ByteArray) (ev rv ev' rv' : Value) (w0 w' : World) : Prop :=
  (w'.cell? ⟨b0, o0 + 1, none⟩ = some (.int .i64 0) ∧ w'.cell? ⟨b0, o0 + 2, none⟩ = some (.int .i64 no) ∧ w'.cell? ⟨b0, o0 + 3, none⟩ = some (.int .i64 kind) ∧ w'.cell? ⟨b0, o0 + 4, none⟩ = some (.int .i64 links) ∧ w'.cell? ⟨b0, o0 + 5, none⟩ = some (.int .i64 size) ∧ w'.cell? ⟨b0, o0 + 6, none⟩ = some (.string t) ∧ w'.cell? ⟨b0, o0 + 7, none⟩ = some ev' ∧ w'.cell? ⟨b0, o0 + 8, none⟩ = some rv' ∧ w'.cell? ⟨B, 0, none⟩ = some (.int .i64 no) ∧ w'.cell? ⟨B, 1, none⟩ = some (.int .i64 kind) ∧ w'.cell? ⟨B, 2, none⟩ = some (.int .i64 links) ∧ w'.cell? ⟨B, 3, none⟩ = some (.int .i64 size) ∧ w'.cell? ⟨B, 4, none⟩ = some (.string t) ∧ w'.cell? ⟨B, 5, none⟩ = some ev ∧ w'.cell? ⟨B, 6, none⟩ = some rv ∧ w'.cell? ⟨b1, o1 + 1, none⟩ = some (.int .i64 n) ∧ w'.cell? ⟨b2, o2 + 1, none⟩ = some (.int .i64 q)) ∧ Below w0.heap.size w0 w'
theorem Wide.step {b0 o0 b1 o1 b2 o2 B : Nat} {no kind links size n q : Int} {t : ByteArray} {ev rv ev' rv' : Value} {w0 w w' : World} (hb : Below w.heap.size w w') (h : Wide b0 o0 b1 o1 b2 o2 B no kind links size n q t ev rv ev' rv' w0 w) : Wide b0 o0 b1 o1 b2 o2 B no kind links size n q t ev rv ev' rv' w0 w' := by
  obtain ⟨⟨h0, h1, h2, h3, h4, h5, h6, h7, h8, h9, h10, h11, h12, h13, h14, h15, h16⟩, h⟩ := h
  exact ⟨⟨kl_cell hb h0, kl_cell hb h1, kl_cell hb h2, kl_cell hb h3, kl_cell hb h4, kl_cell hb h5, kl_cell hb h6, kl_cell hb h7, kl_cell hb h8, kl_cell hb h9, kl_cell hb h10, kl_cell hb h11, kl_cell hb h12, kl_cell hb h13, kl_cell hb h14, kl_cell hb h15, kl_cell hb h16⟩, kl_step hb h⟩

set_option maxHeartbeats 8000000 in
theorem PackWide_walk (no kind links size : Int) (t : ByteArray) (ev rv : Value) (es : List En) (rs : List Rn) (n : Int) (w : World) (h : InoOk w no kind links size t ev rv es rs) (hn : (Lit.int .i64 n).wf = true) :
    Calls Try.prog 7 #[.agg (icells no kind links size t ev rv), .int .i64 n] w fun e w' => e = .returned (.bool true) ∧ Below w.heap.size w w' := by
  obtain ⟨q0, q1, q2, q3, q4, q5, q6⟩ := h
  have HAW := hide (fun w' => awake_any w')
  obtain ⟨ea, ec, hea⟩ := q5.of_len
  obtain ⟨ra, rc, hra⟩ := q6.of_len
  have hlm := q5.len
  have hrm := q6.len
  have htm := q4
  unfold maxLen at hlm hrm htm
  subst hea hra
  obtain ⟨le, hLe⟩ : ∃ n, es.length = n := ⟨_, rfl⟩
  obtain ⟨lr, hLr⟩ : ∃ n, rs.length = n := ⟨_, rfl⟩
  have HLE := hide hLe
  have HLR := hide hLr
  rw [hLe] at q5 hlm
  rw [hLr] at q6 hrm
  unfold icells
  simp only [hLe, hLr]
  have HQ := hide (And.intro q0 (And.intro q1 (And.intro q2 (And.intro q3 q4))))
  have HEs := hide q5
  have HRs := hide q6
  have HNW := hide hn
  clear hLe hLr q0 q1 q2 q3 q4 q5 q6 hn
  have hba := kl_alloc w (.cells #[.int .i64 no, .int .i64 kind, .int .i64 links, .int .i64 size, .string t, .slice ea le ec, .slice ra lr rc] 36)
  have HBl := hide (Blk.new w #[.int .i64 no, .int .i64 kind, .int .i64 links, .int .i64 size, .string t, .slice ea le ec, .slice ra lr rc] 36)
  have HB0 := hide hba
  clear hba
  go_enter Try.func7, Try.ntmps7
  go_upto_region 1 with fail
  generalize w.alloc (.cells #[.int .i64 no, .int .i64 kind, .int .i64 links, .int .i64 size, .string t, .slice ea le ec, .slice ra lr rc] 36) = V at *
  have HWS := hide HB0.out.size
  generalize hA : w.heap.size = B at *
  have HAE := hide hA
  clear hA
  have c4 : V.cell? ⟨B, 4, none⟩ = some (.string t) := HBl.out.cell 4
  have c5 : V.cell? ⟨B, 5, none⟩ = some (.slice ea le ec) := HBl.out.cell 5
  have c6 : V.cell? ⟨B, 6, none⟩ = some (.slice ra lr rc) := HBl.out.cell 6
  by_cases hbig : (le : Int) > 20 ∨ (lr : Int) > 20 ∨ (t.size : Int) > 200
  · have hfin : Hid (∀ w', Calls Try.prog 9 #[] w' (SaysB true w')) := HAW
    by_cases g1 : (le : Int) > 20
    · go_wp2_with fail
      refine (HAW.out V).mono ?_
      rintro e w3 ⟨rfl, hb3⟩
      have HB3 := hide (HB0.out.trans (hb3.mono HWS.out))
      go_wp2
      go_ret
      exact ⟨rfl, by rw [HAE.out]; exact HB3.out⟩
    · by_cases g2 : (lr : Int) > 20
      · go_wp2_with fail
        refine (HAW.out V).mono ?_
        rintro e w3 ⟨rfl, hb3⟩
        have HB3 := hide (HB0.out.trans (hb3.mono HWS.out))
        go_wp2
        go_ret
        exact ⟨rfl, by rw [HAE.out]; exact HB3.out⟩
      · have g3 : (t.size : Int) > 200 := by omega
        go_wp2_with fail
        refine (HAW.out V).mono ?_
        rintro e w3 ⟨rfl, hb3⟩
        have HB3 := hide (HB0.out.trans (hb3.mono HWS.out))
        go_wp2
        go_ret
        exact ⟨rfl, by rw [HAE.out]; exact HB3.out⟩
  · have g1 : (le : Int) ≤ 20 := by omega
    have g2 : (lr : Int) ≤ 20 := by omega
    have g3 : (t.size : Int) ≤ 200 := by omega
    clear hbig
    have HES := hide (HEs.out.below (show Below w.heap.size w V by rw [HAE.out]; exact HB0.out))
    have HRS := hide (HRs.out.below (show Below w.heap.size w V by rw [HAE.out]; exact HB0.out))
    go_wp2
    go_loopw [5] (fun i wr => ∃ k : Nat, k ≤ le ∧ i = .int .i64 k ∧ Hid (∀ j, j < k → (es.getD j default).s.size ≤ 100) ∧ wr = V) (fun i _ => le - (intOf i).toNat)
    case atStart => exact ⟨0, Nat.zero_le _, rfl, hide (by intro j hj; omega), rfl⟩
    case round =>
      obtain ⟨k, hk, rfl, HJ, rfl⟩ := hrel
      by_cases hlt : k < le
      · have hlt' : (k : Int) < le := by omega
        have hkx : k < es.length := by rw [HLE.out]; exact hlt
        obtain ⟨b, o, hbs, hidx, e0, e1⟩ := HES.out.idx k hkx
        have hwf := (HES.out.2 (es.getD k default) (by rw [List.getD, List.getElem?_eq_getElem hkx]; exact List.getElem_mem hkx)).s
        unfold maxLen at hwf
        have HJ2 := hide (fun (h : (es.getD k default).s.size ≤ 100) => (show ∀ j, j < k + 1 → (es.getD j default).s.size ≤ 100 from fun j hj => by
          rcases Nat.lt_succ_iff_lt_or_eq.1 hj with hj | rfl
          · exact HJ.out j hj
          · exact h))
        generalize es.getD k default = y at *
        obtain ⟨ys, yn⟩ := y
        dsimp only at e0 e1 HJ2 hwf
        clear e1
        by_cases hs : (ys.size : Int) > 100
        · go_wp2_with fail
          refine (HAW.out wr).mono ?_
          rintro e w3 ⟨rfl, hb3⟩
          have HB3 := hide (HB0.out.trans (hb3.mono HWS.out))
          go_wp2
          go_ret
          exact ⟨rfl, by rw [HAE.out]; exact HB3.out⟩
        · have HN := hide (HJ2.out (by omega))
          have hs' : (ys.size : Int) ≤ 100 := by omega
          clear hs
          go_wp2
          exact ⟨⟨k + 1, by omega, by go_num, HN, trivial⟩, by simp [intOf]; omega⟩
      · obtain rfl : k = le := by omega
        clear c4 c5 c6
        have c0 : wr.cell? ⟨B, 0, none⟩ = some (.int .i64 no) := HBl.out.cell 0
        have c1 : wr.cell? ⟨B, 1, none⟩ = some (.int .i64 kind) := HBl.out.cell 1
        have c2 : wr.cell? ⟨B, 2, none⟩ = some (.int .i64 links) := HBl.out.cell 2
        have c3 : wr.cell? ⟨B, 3, none⟩ = some (.int .i64 size) := HBl.out.cell 3
        have c4 : wr.cell? ⟨B, 4, none⟩ = some (.string t) := HBl.out.cell 4
        have c5 : wr.cell? ⟨B, 5, none⟩ = some (.slice ea k ec) := HBl.out.cell 5
        have c6 : wr.cell? ⟨B, 6, none⟩ = some (.slice ra lr rc) := HBl.out.cell 6
        obtain ⟨X, hX⟩ : ∃ X : Ino, X = ⟨no, kind, links, size, t, es, rs⟩ := ⟨_, rfl⟩
        have hqw : (Lit.int .i64 (wrap64 (-n))).wf = true := wf_i64 (by unfold wrap64; omega) (by unfold wrap64; omega)
        have hsm : ∀ e ∈ es, e.s.size ≤ 100 := fun e he => by
          obtain ⟨j, hj, rfl⟩ := List.mem_iff_getElem.1 he
          have := HJ.out j (by rw [← HLE.out]; exact hj)
          rwa [List.getD, List.getElem?_eq_getElem hj] at this
        have hle := HLE.out
        have hlr := HLR.out
        have hIn : InOk X := by
          rw [hX]
          exact ⟨⟨⟨⟨⟨⟨in64_wf HQ.out.1, in64_wf HQ.out.2.1⟩, in64_wf HQ.out.2.2.1⟩, in64_wf HQ.out.2.2.2.1⟩, by dsimp only; omega⟩, by dsimp only; omega, fun e he => ⟨by have := hsm e he; omega, in64_wf (HES.out.2 e he).n⟩⟩, by dsimp only; omega, fun r hr => ⟨⟨in64_wf (HRS.out.2 r hr).f, in64_wf (HRS.out.2 r hr).a⟩, in64_wf (HRS.out.2 r hr).n⟩⟩
        have hOk := parse_pack (m := [⟨2, 0, X⟩, ⟨4, n, noI⟩, ⟨3, wrap64 (-n), noI⟩]) (by
          intro d hd
          simp only [List.mem_cons, List.not_mem_nil, or_false] at hd
          rcases hd with rfl | rfl | rfl
          · exact .inr ⟨rfl, rfl, hIn⟩
          · exact .inl ⟨.inr (.inr rfl), in64_wf HNW.out, rfl⟩
          · exact .inl ⟨.inr (.inl rfl), in64_wf hqw, rfl⟩)
        have hPl : (packL [⟨2, 0, X⟩, ⟨4, n, noI⟩, ⟨3, wrap64 (-n), noI⟩]).length ≤ 100000 := by
          have h1 := packI_length X
          have h2 := flat_most packE 112 X.es (fun e he => by rw [packE_length]; have := hsm e (by rw [hX] at he; exact he); omega)
          have h3 := packRs_length X.rs
          have h4 : packL [⟨2, 0, X⟩, ⟨4, n, noI⟩, ⟨3, wrap64 (-n), noI⟩] = packD ⟨2, 0, X⟩ ++ (packD ⟨4, n, noI⟩ ++ packD ⟨3, wrap64 (-n), noI⟩) := by simp [packL]
          rw [h4, List.length_append, List.length_append, packD_2 rfl, packD_1 (by simp), packD_1 (by simp), List.length_append, List.length_append, List.length_append, n8_length, n8_length]
          simp only [List.length_singleton]
          have h5 : X.es.length = k := by rw [hX]; exact hle
          have h6 : X.rs.length = lr := by rw [hX]; exact hlr
          have h7 : X.t.size = t.size := by rw [hX]
          rw [h5] at h2
          rw [h6] at h3
          omega
        have hD := deeds_new wr [⟨⟨2, 0, X⟩, .slice ea k ec, .slice ra lr rc⟩, ⟨⟨4, n, noI⟩, .slice none 0 0, .slice none 0 0⟩, ⟨⟨3, wrap64 (-n), noI⟩, .slice none 0 0, .slice none 0 0⟩] #[.int .i64 2, .int .i64 0, .int .i64 no, .int .i64 kind, .int .i64 links, .int .i64 size, .string t, .slice ea k ec, .slice ra lr rc, .int .i64 4, .int .i64 n, .int .i64 0, .int .i64 0, .int .i64 0, .int .i64 0, .string ⟨#[]⟩, .slice none 0 0, .slice none 0 0, .int .i64 3, .int .i64 (wrap64 (-n)), .int .i64 0, .int .i64 0, .int .i64 0, .int .i64 0, .string ⟨#[]⟩, .slice none 0 0, .slice none 0 0] 38 3 rfl (by rw [hX]; rfl) (by simp) (by
          intro r hr
          simp only [List.mem_cons, List.not_mem_nil, or_false] at hr
          rcases hr with rfl | rfl | rfl
          · rw [hX]; exact ⟨wf_i64 (by simp) (by simp), wf_i64 (by simp) (by simp), HQ.out.1, HQ.out.2.1, HQ.out.2.2.1, HQ.out.2.2.2.1, HQ.out.2.2.2.2, rfl, rfl⟩
          · exact dv_num (wf_i64 (by decide) (by decide)) HNW.out
          · exact dv_num (wf_i64 (by decide) (by decide)) hqw) (by
          intro r hr
          simp only [List.mem_cons, List.not_mem_nil, or_false] at hr
          rcases hr with rfl | rfl | rfl
          · rw [hX]; exact ⟨HES.out, HRS.out⟩
          · exact ⟨ERow.nil _, RRow.nil _⟩
          · exact ⟨ERow.nil _, RRow.nil _⟩)
        have hC := Deeds_any _ _ _ hD (by show (packL [⟨2, 0, X⟩, ⟨4, n, noI⟩, ⟨3, wrap64 (-n), noI⟩]).length ≤ 1000000; omega)
        rw [show packL ([(⟨⟨2, 0, X⟩, .slice ea k ec, .slice ra lr rc⟩ : Dv), ⟨⟨4, n, noI⟩, .slice none 0 0, .slice none 0 0⟩, ⟨⟨3, wrap64 (-n), noI⟩, .slice none 0 0, .slice none 0 0⟩].map Dv.d) = packL [⟨2, 0, X⟩, ⟨4, n, noI⟩, ⟨3, wrap64 (-n), noI⟩] from rfl] at hC
        generalize packL [⟨2, 0, X⟩, ⟨4, n, noI⟩, ⟨3, wrap64 (-n), noI⟩] = BY at *
        have HC := hide hC
        have HOk := hide hOk
        have HPl := hide hPl
        have HX := hide hX
        have HBa := hide (HB0.out.trans ((kl_alloc wr (.cells #[.int .i64 2, .int .i64 0, .int .i64 no, .int .i64 kind, .int .i64 links, .int .i64 size, .string t, .slice ea k ec, .slice ra lr rc, .int .i64 4, .int .i64 n, .int .i64 0, .int .i64 0, .int .i64 0, .int .i64 0, .string ⟨#[]⟩, .slice none 0 0, .slice none 0 0, .int .i64 3, .int .i64 (wrap64 (-n)), .int .i64 0, .int .i64 0, .int .i64 0, .int .i64 0, .string ⟨#[]⟩, .slice none 0 0, .slice none 0 0] 38)).mono HWS.out))
        have HBb := hide (kl_alloc wr (.cells #[.int .i64 2, .int .i64 0, .int .i64 no, .int .i64 kind, .int .i64 links, .int .i64 size, .string t, .slice ea k ec, .slice ra lr rc, .int .i64 4, .int .i64 n, .int .i64 0, .int .i64 0, .int .i64 0, .int .i64 0, .string ⟨#[]⟩, .slice none 0 0, .slice none 0 0, .int .i64 3, .int .i64 (wrap64 (-n)), .int .i64 0, .int .i64 0, .int .i64 0, .int .i64 0, .string ⟨#[]⟩, .slice none 0 0, .slice none 0 0] 38))
        clear hC hOk hPl hX hD hsm hle hlr hIn hqw
        go_wp2_with fail
        refine HC.out.mono ?_
        rintro e w1 ⟨u1, rfl, ho1, hb1⟩
        have HO1 := hide ho1.row
        have HB1 := hide (HBa.out.trans (hb1.mono (by have := HBa.out.size; have := HWS.out; have := HBb.out.size; omega)))
        have HV1 := hide (kl_step hb1 HBb.out)
        have hC := Parse_any w1 u1 BY ho1.row (by have := HPl.out; omega)
        rw [HOk.out] at hC
        have HC2 := hide hC
        clear ho1 hb1 hC HC HBa HBb
        go_wp2_with fail
        refine HC2.out.mono ?_
        rintro e w2 ⟨u2, ds, rfl, hd, hm, hb2⟩
        have HB2 := hide (HB1.out.trans (hb2.mono (by have := HWS.out; have := HV1.out.size; omega)))
        have HV2 := hide (kl_step hb2 HV1.out)
        obtain ⟨x1, x2, x3, hds⟩ : ∃ x1 x2 x3, ds = [x1, x2, x3] := by
          have h3 : ds.length = 3 := by have := congrArg List.length hm; simpa using this
          match ds, h3 with
          | [a, b, c], _ => exact ⟨a, b, c, rfl⟩
        subst hds
        simp only [List.map_cons, List.map_nil, List.cons.injEq, and_true] at hm
        obtain ⟨m1, m2, m3⟩ := hm
        have hlen := hd.row.lenRun
        simp only [List.length_cons, List.length_nil, Nat.zero_add, Nat.reduceAdd] at hlen
        have hlen : ∀ (w' : World) (ty : TypeId), (Builtin.len_ #[22] ty #[u2]).run Try.prog w' = .ok (.int .i64 3) w' := hlen
        obtain ⟨b0, o0, _, hi0, hc0⟩ := hd.row.idx 0 (by simp)
        obtain ⟨b1, o1, _, hi1, hc1⟩ := hd.row.idx 1 (by simp)
        obtain ⟨b2, o2, _, hi2, hc2⟩ := hd.row.idx 2 (by simp)
        have hi0 : ∀ w', (Instr.indexAt 22 u2 (.int .i64 0)).run Try.prog w' = .ok (.pointer (some ⟨b0, o0, none⟩)) w' := hi0
        have hi1 : ∀ w', (Instr.indexAt 22 u2 (.int .i64 1)).run Try.prog w' = .ok (.pointer (some ⟨b1, o1, none⟩)) w' := hi1
        have hi2 : ∀ w', (Instr.indexAt 22 u2 (.int .i64 2)).run Try.prog w' = .ok (.pointer (some ⟨b2, o2, none⟩)) w' := hi2
        have hc0 : ∀ j u, x1.cells[j]? = some u → w2.cell? ⟨b0, o0 + j, none⟩ = some u := hc0
        have hc1 : ∀ j u, x2.cells[j]? = some u → w2.cell? ⟨b1, o1 + j, none⟩ = some u := hc1
        have hc2 : ∀ j u, x3.cells[j]? = some u → w2.cell? ⟨b2, o2 + j, none⟩ = some u := hc2
        obtain ⟨d1, ev', rv'⟩ := x1
        obtain ⟨d2, ev2, rv2⟩ := x2
        obtain ⟨d3, ev3, rv3⟩ := x3
        dsimp only at m1 m2 m3
        subst m1 m2 m3
        have hr1 := (hd.row.2 _ (List.mem_cons_self ..))
        obtain ⟨hre, hrr⟩ := hr1
        dsimp only at hre hrr
        have hXe := HX.out
        subst hXe
        dsimp only at hre hrr
        obtain ⟨ea', ec', he'⟩ := hre.of_len
        obtain ⟨ra', rc', hr'⟩ := hrr.of_len
        rw [HLE.out] at he'
        rw [HLR.out] at hr'
        subst he' hr'
        have hq : IntKind.i64.wrap (-n) = wrap64 (-n) := IntWalk.i64_left (-n)
        generalize wrap64 (-n) = q at *
        have HS : Hid (Wide b0 o0 b1 o1 b2 o2 B no kind links size n q t (.slice ea k ec) (.slice ra lr rc) (.slice ea' k ec') (.slice ra' lr rc') w2 w2) := hide ⟨⟨hc0 1 _ rfl, hc0 2 _ rfl, hc0 3 _ rfl, hc0 4 _ rfl, hc0 5 _ rfl, hc0 6 _ rfl, hc0 7 _ rfl, hc0 8 _ rfl, kl_cell HV2.out c0, kl_cell HV2.out c1, kl_cell HV2.out c2, kl_cell HV2.out c3, kl_cell HV2.out c4, kl_cell HV2.out c5, kl_cell HV2.out c6, hc1 1 _ rfl, hc2 1 _ rfl⟩, Below.refl _ _⟩
        have HCI := hide (fun w' (hb : Below w2.heap.size w2 w') => SameI_any w' no kind links size t (.slice ea' k ec') (.slice ra' lr rc') es rs no kind links size t (.slice ea k ec) (.slice ra lr rc) es rs (hre.below hb) (hrr.below hb) (HES.out.below (HV2.out.trans (hb.mono HV2.out.size))) (HRS.out.below (HV2.out.trans (hb.mono HV2.out.size))))
        rw [sameI_refl] at HCI
        clear hc0 hc1 hc2 hre hrr hd hb2 HC2 c0 c1 c2 c3 c4 c5 c6 HOk HPl HX HO1 HB1 HV1 hlm hrm
        go_wp2_with fail
        go_region_held3 (fun w' => (w'.cell? ⟨b0, o0 + 1, none⟩ = some (.int .i64 0) ∧ w'.cell? ⟨b0, o0 + 2, none⟩ = some (.int .i64 no) ∧ w'.cell? ⟨b0, o0 + 3, none⟩ = some (.int .i64 kind) ∧ w'.cell? ⟨b0, o0 + 4, none⟩ = some (.int .i64 links) ∧ w'.cell? ⟨b0, o0 + 5, none⟩ = some (.int .i64 size) ∧ w'.cell? ⟨b0, o0 + 6, none⟩ = some (.string t) ∧ w'.cell? ⟨b0, o0 + 7, none⟩ = some (.slice ea' k ec') ∧ w'.cell? ⟨b0, o0 + 8, none⟩ = some (.slice ra' lr rc') ∧ w'.cell? ⟨B, 0, none⟩ = some (.int .i64 no) ∧ w'.cell? ⟨B, 1, none⟩ = some (.int .i64 kind) ∧ w'.cell? ⟨B, 2, none⟩ = some (.int .i64 links) ∧ w'.cell? ⟨B, 3, none⟩ = some (.int .i64 size) ∧ w'.cell? ⟨B, 4, none⟩ = some (.string t) ∧ w'.cell? ⟨B, 5, none⟩ = some (.slice ea k ec) ∧ w'.cell? ⟨B, 6, none⟩ = some (.slice ra lr rc) ∧ w'.cell? ⟨b1, o1 + 1, none⟩ = some (.int .i64 n) ∧ w'.cell? ⟨b2, o2 + 1, none⟩ = some (.int .i64 q)) ∧ Below w2.heap.size w2 w')
          (first
            | assumption
            | exact Wide.step (kl_drew _) HS.out
            | exact Wide.step hb9 (show Wide b0 o0 b1 o1 b2 o2 B no kind links size n q t (.slice ea k ec) (.slice ra lr rc) (.slice ea' k ec') (.slice ra' lr rc') w2 _ by assumption)
            | exact Wide.step hb8 (show Wide b0 o0 b1 o1 b2 o2 B no kind links size n q t (.slice ea k ec) (.slice ra lr rc) (.slice ea' k ec') (.slice ra' lr rc') w2 _ by assumption)
            | fail)
          (first
            | (go_at_call 9; refine (HAW.out _).mono ?_; rintro x w8 ⟨rfl, hb8⟩)
            | (go_at_call 20; refine (HCI.out _ (And.right (show Wide b0 o0 b1 o1 b2 o2 B no kind links size n q t (.slice ea k ec) (.slice ra lr rc) (.slice ea' k ec') (.slice ra' lr rc') w2 _ by assumption))).mono ?_; rintro x w9 ⟨rfl, hb9⟩)
            | fail)
        have hX9 : Wide b0 o0 b1 o1 b2 o2 B no kind links size n q t (.slice ea k ec) (.slice ra lr rc) (.slice ea' k ec') (.slice ra' lr rc') w2 w9 := by assumption
        have HB9 := hide (HB2.out.trans (hX9.2.mono (by have := HWS.out; have := HV2.out.size; omega)))
        clear hX9 hb8 hb9
        go_wp2
        go_ret
        exact ⟨rfl, by rw [HAE.out]; exact HB9.out⟩
end Go.Proofs.Ytgkmgpjhpplkiaa
