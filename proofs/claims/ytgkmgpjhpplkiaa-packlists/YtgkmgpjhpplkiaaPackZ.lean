/-
  garretlaw13's few: are these deeds not too much?
-/
import Derived.Test.YtgkmgpjhpplkiaaPackB
import Derived.Test.YtgkmgpjhpplkiaaSays
import Derived.Deep.CutBlock
import Derived.Deep.DeepCutAuto
namespace Go.Proofs.Ytgkmgpjhpplkiaa
open Go.RowKit
set_option linter.unusedVariables false
set_option maxRecDepth 100000

def sizE (e : En) : Nat := 10 + e.s.size
def sizD (d : Dd) : Nat := 10 + d.x.t.size + d.x.rs.length + (d.x.es.map sizE).sum
def sizL (l : List Dd) : Nat := (l.map sizD).sum
theorem sum_le {α : Type} (f g : α → Nat) (l : List α) (h : ∀ x ∈ l, f x ≤ 10 * g x) : (l.map f).sum ≤ 10 * (l.map g).sum := by
  induction l with
  | nil => simp
  | cons a t ih =>
    have h1 := h a (List.mem_cons_self ..)
    have h2 := ih fun x hx => h x (List.mem_cons_of_mem _ hx)
    simp only [List.map_cons, List.sum_cons]
    omega
theorem sizD_le (d : Dd) : sizD d ≤ 10 * wtD d := by
  have h1 := sum_le sizE wtE d.x.es fun e _ => by unfold sizE wtE; omega
  have h2 := wtR_sum d.x.rs
  unfold sizD wtD wtI
  omega
theorem sizL_le (l : List Dd) : sizL l ≤ 10 * wtL l := sum_le sizD wtD l fun d _ => sizD_le d
theorem sum_take {α : Type} [Inhabited α] (f : α → Nat) (l : List α) (k : Nat) (h : k < l.length) : ((l.take (k + 1)).map f).sum = ((l.take k).map f).sum + f (l.getD k default) := by
  rw [List.take_succ_eq_append_getElem h, List.map_append, List.sum_append]
  simp [List.getD, List.getElem?_eq_getElem h]
theorem sum_upto {α : Type} (f : α → Nat) (l : List α) (k : Nat) : ((l.take k).map f).sum ≤ (l.map f).sum := by
  have : (l.map f).sum = ((l.take k).map f).sum + ((l.drop k).map f).sum := by rw [← List.sum_append, ← List.map_append, List.take_append_drop]
  omega

set_option maxHeartbeats 8000000 in
theorem few_any (w : World) (v : Value) (xs : List Dv) (h : DRow w v xs) (hn : wtL (xs.map Dv.d) + 1 ≤ 1048576) :
    Calls Try.prog 8 #[v] w (SaysB (decide (sizL (xs.map Dv.d) ≤ 4000)) w) := by
  have hS := sizL_le (xs.map Dv.d)
  have hlen := h.lenRun
  have hlm := h.len
  unfold maxLen at hlm
  obtain ⟨f, hf⟩ : ∃ f : Dv → Nat, f = fun x => sizD x.d := ⟨_, rfl⟩
  have eS : sizL (xs.map Dv.d) = (xs.map f).sum := by unfold sizL; rw [List.map_map, hf]; rfl
  rw [eS] at hS ⊢
  have hmax : (xs.map f).sum ≤ 10485760 := by omega
  have HF := hide hf
  have HD := hide h
  clear h hn hS eS hf
  obtain ⟨len, hL⟩ : ∃ n, xs.length = n := ⟨_, rfl⟩
  have HL := hide hL
  simp only [hL] at hlen
  rw [hL] at hlm
  clear hL
  go_enter Try.func8, Try.ntmps8
  go_wp2
  go_loopw [3, 4] (fun n i wr => ∃ k s : Nat, k ≤ len ∧ i = .int .i64 k ∧ n = .int .i64 s ∧ Hid (s = ((xs.take k).map f).sum) ∧ Hid (Below w.heap.size w wr)) (fun _ i _ => len - (intOf i).toNat)
  case atStart => exact ⟨0, 0, Nat.zero_le _, rfl, rfl, hide (by simp), hide (Below.refl _ _)⟩
  case round =>
    obtain ⟨k, s, hk, rfl, rfl, HS, HB⟩ := hrel
    by_cases hlt : k < len
    · have hlt' : (k : Int) < len := by omega
      have hkx : k < xs.length := by rw [HL.out]; exact hlt
      obtain ⟨b, o, hbs, hidx, hc⟩ := (HD.out.below HB.out).idx k hkx
      have hsum := sum_take f xs k hkx
      have hup := sum_upto f xs (k + 1)
      have hrd := (HD.out.below HB.out).2 (xs.getD k default) (by rw [List.getD, List.getElem?_eq_getElem hkx]; exact List.getElem_mem hkx)
      have hwf := HD.out.1.2 (xs.getD k default) (by rw [List.getD, List.getElem?_eq_getElem hkx]; exact List.getElem_mem hkx)
      rw [← HS.out] at hsum
      generalize xs.getD k default = x at *
      rw [hsum] at hup
      have HN := hide hsum
      have efx : f x = sizD x.d := by rw [HF.out]
      rw [efx] at hup
      rw [efx] at HN
      obtain ⟨⟨kk, nn, ⟨no, kind, links, size, t, es, rs⟩⟩, ev, rv⟩ := x
      have ht := hwf.t
      simp only [maxLen] at ht
      obtain ⟨hre, hrr⟩ := hrd
      simp only [sizD] at hup HN
      dsimp only at hre hrr
      obtain ⟨ea, ec, hev⟩ := hre.of_len
      obtain ⟨ra, rc, hrv⟩ := hrr.of_len
      subst hev hrv
      have p2 : wr.cell? ⟨b, o + 2, none⟩ = some (.int .i64 no) := hc 2 _ rfl
      have p3 : wr.cell? ⟨b, o + 3, none⟩ = some (.int .i64 kind) := hc 3 _ rfl
      have p4 : wr.cell? ⟨b, o + 4, none⟩ = some (.int .i64 links) := hc 4 _ rfl
      have p5 : wr.cell? ⟨b, o + 5, none⟩ = some (.int .i64 size) := hc 5 _ rfl
      have p6 : wr.cell? ⟨b, o + 6, none⟩ = some (.string t) := hc 6 _ rfl
      have p7 : wr.cell? ⟨b, o + 7, none⟩ = some (.slice ea es.length ec) := hc 7 _ rfl
      have p8 : wr.cell? ⟨b, o + 8, none⟩ = some (.slice ra rs.length rc) := hc 8 _ rfl
      have hlr := hrr.lenRun
      have hle := hre.lenRun
      have hlem := hre.len
      unfold maxLen at hlem
      have hB1 := kl_alloc wr (.cells #[.int .i64 no, .int .i64 kind, .int .i64 links, .int .i64 size, .string t, .slice ea es.length ec, .slice ra rs.length rc] 36)
      have hBl := Blk.new wr #[.int .i64 no, .int .i64 kind, .int .i64 links, .int .i64 size, .string t, .slice ea es.length ec, .slice ra rs.length rc] 36
      have HRE := hide (hre.below hB1)
      have HB1 := hide (kl_step hB1 HB.out)
      have HBL := hide hBl
      have hsr := sum_upto sizE es
      have hse := sum_take sizE es
      have HAL := hide (show ((es.take es.length).map sizE).sum = (es.map sizE).sum by rw [List.take_length])
      clear hre hrr hc hwf hBl hB1 hsum efx ht
      generalize rs.length = lr at *
      obtain ⟨le, hLe⟩ : ∃ n, n = es.length := ⟨_, rfl⟩
      have HLE := hide hLe
      rw [← hLe] at hle hlem HBL HRE HB1 HAL p7
      clear hLe
      go_upto_region 6 with fail
      generalize wr.alloc (.cells #[.int .i64 no, .int .i64 kind, .int .i64 links, .int .i64 size, .string t, .slice ea le ec, .slice ra lr rc] 36) = V at *
      generalize wr.heap.size = g at *
      clear p2 p3 p4 p5 p6 p7 p8
      have q4 : V.cell? ⟨g, 4, none⟩ = some (.string t) := HBL.out.cell 4
      have q5 : V.cell? ⟨g, 5, none⟩ = some (.slice ea le ec) := HBL.out.cell 5
      have q6 : V.cell? ⟨g, 6, none⟩ = some (.slice ra lr rc) := HBL.out.cell 6
      generalize hSE : (es.map sizE).sum = SE at *
      clear hSE
      generalize hts : t.size = ts at *
      go_wp2
      go_loopw [3, 6] (fun n j wr => ∃ m u : Nat, m ≤ le ∧ j = .int .i64 m ∧ n = .int .i64 u ∧ u = s + 10 + ts + lr + ((es.take m).map sizE).sum ∧ wr = V) (fun _ j _ => le - (intOf j).toNat)
      case atStart => exact ⟨0, s + 10 + ts + lr, Nat.zero_le _, rfl, congrArg (Value.int .i64) (by omega), by simp, rfl⟩
      case round =>
        obtain ⟨m, u, hm, rfl, rfl, hu, rfl⟩ := hrel
        by_cases hmt : m < le
        · have hmt' : (m : Int) < le := by omega
          have hmx : m < es.length := by rw [← HLE.out]; exact hmt
          obtain ⟨b2, o2, hb2, hid2, c0, _⟩ := HRE.out.idx m hmx
          have h1 := hse m hmx
          have h2 := hsr (m + 1)
          generalize es.getD m default = y at *
          obtain ⟨ys, yn⟩ := y
          simp only [sizE] at h1
          rw [h1] at h2
          have HU := hide (show u + 10 + ys.size = s + 10 + ts + lr + ((es.take (m + 1)).map sizE).sum by omega)
          generalize ((es.take m).map sizE).sum = Sm at *
          generalize hSn : ((es.take (m + 1)).map sizE).sum = Sn at *
          have HSn := hide hSn
          clear hSn
          go_wp2
          exact ⟨⟨m + 1, s + 10 + ts + lr + Sm + 10 + ys.size, by omega, by go_num, congrArg (Value.int .i64) (by omega), by have h1 := HU.out; rw [HSn.out]; omega, trivial⟩, by simp [intOf]; omega⟩
        · obtain rfl : m = le := by omega
          go_wp2
          exact ⟨⟨k + 1, u, by omega, by go_num, rfl, hide (by have h1 := HN.out; have h2 := HAL.out; omega), HB1⟩, by simp [intOf]; omega⟩
    · obtain rfl : k = len := by omega
      have HE := hide (show s = (xs.map f).sum by rw [HS.out, List.take_of_length_le (by rw [HL.out]; exact Nat.le_refl _)])
      go_wp2
      go_ret
      exact ⟨ret_one (congrArg Value.bool (decide_eq_decide.2 (by have := HE.out; omega))), HB.out⟩
end Go.Proofs.Ytgkmgpjhpplkiaa
