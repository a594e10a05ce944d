/-
  The contracts of package name: Parts, Split.
-/
import Derived.Test.YtoffgmkkkdklpaaDoorNameB
import Derived.BigQuiet
namespace Go.Proofs.YtoffgmkkkdklpaaDoor
open Go.RowKit
set_option linter.unusedVariables false
set_option maxRecDepth 100000

/-- What Parts answers. -/
def SaysP (r : List (List UInt8) × Bool × Int) (w : World) (e : Ending) (w' : World) : Prop := ∃ v, e = .returned (.tuple #[v, .bool r.2.1, .int .i64 r.2.2]) ∧ SRow w' v (r.1.map tx) ∧ Below w.heap.size w w'
/-- What Split answers. -/
def SaysS (r : List (List UInt8) × Int) (w : World) (e : Ending) (w' : World) : Prop := ∃ v, e = .returned (.tuple #[v, .int .i64 r.2]) ∧ SRow w' v (r.1.map tx) ∧ Below w.heap.size w w'

theorem drop_at {α : Type} {l : List α} {k : Nat} {d : α} (h : k < l.length) : l.drop k = l.getD k d :: l.drop (k + 1) := by
  rw [List.drop_eq_getElem_cons h]; simp [List.getD, List.getElem?_eq_getElem h]
theorem pieces_at {s : ByteArray} {k : Nat} (h : k < (pieces s).length) : (cutL (bl s)).drop k = bl ((pieces s).getD k ByteArray.empty) :: (cutL (bl s)).drop (k + 1) := by
  rw [← pieces_cut, ← List.map_drop, drop_at (d := ByteArray.empty) h, List.map_cons, List.map_drop]
theorem pieces_some {s : ByteArray} {k : Nat} (h : k < (pieces s).length) : (pieces s).getD k ByteArray.empty ∈ pieces s := by
  rw [show (pieces s).getD k ByteArray.empty = (pieces s)[k] from by simp [List.getD, List.getElem?_eq_getElem h]]
  exact List.getElem_mem h
/-- Is the first byte a slash? -/
theorem head_slash {s : ByteArray} (h : 0 < s.size) : ((s[0].toNat : Int) == 47) = decide ((bl s).head? = some 47) := by
  have e0 : (bl s)[0]'(by rw [bl_length]; exact h) = s[0] := rfl
  have e1 : (bl s).head? = some s[0] := by rw [List.head?_eq_getElem?, List.getElem?_eq_getElem (by rw [bl_length]; exact h), e0]
  rw [e1, Bool.eq_iff_iff]
  simp [← UInt8.toNat_inj]
  omega

theorem walk_step {a b : Option (List (List UInt8))} {done : List (List UInt8)} {p : List UInt8} {c : Option (List (List UInt8))} (h : a = b.map (done ++ ·)) (hb : b = c.map (p :: ·)) : a = c.map ((done ++ [p]) ++ ·) := by
  rw [h, hb]; cases c <;> simp
theorem tx_snoc (done : List (List UInt8)) (p : ByteArray) : done.map tx ++ [p] = (done ++ [bl p]).map tx := by simp [tx_bl]

theorem below_drewN (w : World) (n : Nat) : Below w.heap.size w (w.drewN n) := ⟨rfl, rfl, rfl, Nat.le_refl _, fun _ _ => rfl⟩
set_option maxHeartbeats 4000000 in
theorem Parts_any (w : World) (s : ByteArray) (hs : s.size ≤ maxLen) : Calls Tryd.prog 11 #[.string s] w (SaysP (partsS (bl s)) w) := by
  have hz := isSized_any w s 400 hs
  by_cases hl : 1 ≤ (bl s).length ∧ (bl s).length ≤ 400
  · have hl' : 1 ≤ (s.size : Int) ∧ (s.size : Int) ≤ 400 := by rw [bl_length] at hl; omega
    rw [decide_eq_true hl'] at hz
    have hsp := split_any w s (by omega)
    have hfew := pieces_few s
    have hA := kl_alloc w (.cells (sv (pieces s)).toArray 9)
    have hR := strs_new w (pieces s) _ _ rfl rfl (by unfold maxLen; omega) (fun x hx => by have := pieces_small hx; unfold maxLen; omega)
    have hn : ∃ n, (pieces s).length = n := ⟨_, rfl⟩
    obtain ⟨n, hn⟩ := hn
    rw [hn] at hsp hR hfew
    have hlr := hR.lenRun
    simp only [hn] at hlr
    have HN := hide hn
    have HL := hide hl
    have HR := hide hR
    have HA := hide hA
    obtain ⟨hl1, hl2⟩ := hl'
    clear hn hl hR hA hs
    generalize (w.alloc (.cells (sv (pieces s)).toArray 9)) = w1 at *
    generalize (Value.slice (some ⟨w.heap.size, 0, none⟩) n n) = pv at *
    go_enter Tryd.func11, Tryd.ntmps11
    go_wp2_with fail
    refine hz.mono ?_
    rintro e w ⟨rfl, rfl⟩
    go_wp2_with fail
    refine hsp.mono ?_
    rintro e w1 ⟨rfl, rfl⟩
    go_wp2
    go_loopw [5, 14] (fun v i wr => ∃ (k : Nat) (done : List (List UInt8)), k ≤ n ∧ i = .int .i64 k ∧ walkS (cutL (bl s)) = (walkS ((cutL (bl s)).drop k)).map (done ++ ·) ∧ done.length ≤ k ∧ SOwn w1.heap.size wr v (done.map tx) ∧ Below w1.heap.size w1 wr) (fun _ i _ => n - (intOf i).toNat)
    case atStart => exact ⟨0, [], Nat.zero_le _, rfl, by rw [List.drop_zero]; cases walkS (cutL (bl s)) <;> simp, Nat.le_refl _, SOwn.nil _ _, Below.refl _ _⟩
    case round =>
      obtain ⟨k, done, hk, rfl, hwk, hdk, how, hbk⟩ := hrel
      have HWK := hide hwk
      clear hwk
      by_cases hlt : k < n
      · have hlt' : (k : Int) < n := by omega
        have hkp : k < (pieces s).length := by rw [HN.out]; exact hlt
        have hRb : SRow wr pv (pieces s) := HR.out.below hbk
        have hidx := hRb.idx k hkp
        obtain ⟨b, o, _, hix, hce⟩ := hidx
        clear hRb
        have hat := pieces_at hkp
        have hps := pieces_small (pieces_some hkp)
        generalize (pieces s).getD k ByteArray.empty = p at *
        have hq := Lib.toList_data p
        rw [hat] at HWK
        have HOW := hide how
        have HBK := hide hbk
        clear hat how hbk
        by_cases c1 : bl p = []
        · have q1 : p.toList = [] := hq.trans c1
          have hn1 : Hid (walkS (cutL (bl s)) = (walkS ((cutL (bl s)).drop (k + 1))).map (done ++ ·)) := by have := HWK.out; rwa [walkS_skip (.inl c1)] at this
          clear hq c1
          go_wp2
          exact ⟨⟨k + 1, done, by omega, by go_num, hn1.out, by omega, HOW.out, HBK.out⟩, by simp [intOf]; omega⟩
        · have q1 : p.toList.isEmpty = false := by
            rw [hq]
            cases h : p.data.toList with
            | nil => exact absurd h c1
            | cons _ _ => rfl
          by_cases c2 : bl p = [46]
          · have q2 : p.toList = [46] := hq.trans c2
            have hn1 : Hid (walkS (cutL (bl s)) = (walkS ((cutL (bl s)).drop (k + 1))).map (done ++ ·)) := by have := HWK.out; rwa [walkS_skip (.inr c2)] at this
            clear hq c1 c2 q1
            go_wp2
            exact ⟨⟨k + 1, done, by omega, by go_num, hn1.out, by omega, HOW.out, HBK.out⟩, by simp [intOf]; omega⟩
          · have q2 : (p.toList == [46]) = false := beq_eq_false_iff_ne.2 (fun e => c2 (hq.symm.trans e))
            have hB : bl p ≠ [] ∧ bl p ≠ [46] := ⟨c1, c2⟩
            by_cases c3 : bl p = [46, 46]
            · have q3 : p.toList = [46, 46] := hq.trans c3
              have hn1 : Hid (walkS (cutL (bl s)) = (walkS ((cutL (bl s)).drop (k + 1))).map ((done ++ [bl p]) ++ ·)) := walk_step HWK.out (walkS_take (.inl c3) _)
              have HNEW := hide (strs_new wr [p] #[.string p] 1 rfl rfl (by unfold maxLen; omega) (fun x hx => by simp at hx; subst hx; unfold maxLen; omega))
              have HOW2 := hide (HOW.out.alloc (.cells #[.string p] 9))
              have HB2 := hide (HBK.out.alloc HBK.out.size (.cells #[.string p] 9))
              clear hq c1 c2 c3 hB
              go_wp2_with (at_builtin; refine wpList_append_texts rfl _ _ rfl w1.heap.size u5 _ (done.map tx) [p] rfl HOW2.out rfl HNEW.out (by simp; omega) HB2.out.size ?_)
              intro v2 w2 hown2 hg2
              have hb2 : Below w1.heap.size w1 w2 := HOW2.out.grown_below HB2.out hg2 (Nat.le_refl _) HB2.out.size
              rw [tx_snoc] at hown2
              go_wp2
              exact ⟨⟨k + 1, done ++ [bl p], by omega, by go_num, hn1.out, by simp; omega, hown2, hb2⟩, by simp [intOf]; omega⟩
            · have q3 : (p.toList == [46, 46]) = false := beq_eq_false_iff_ne.2 (fun e => c3 (hq.symm.trans e))
              have hri := fun w => Right_any w p (by unfold maxLen; omega)
              cases hrt : rightN (bl p) with
              | true =>
                rw [hrt] at hri
                have hn1 : Hid (walkS (cutL (bl s)) = (walkS ((cutL (bl s)).drop (k + 1))).map ((done ++ [bl p]) ++ ·)) := walk_step HWK.out (walkS_take (.inr hrt) _)
                clear hq c1 c2 c3 hB hrt
                go_wp2_with fail
                refine (hri _).mono ?_
                rintro e w9 ⟨rfl, hb9⟩
                have HNEW := hide (strs_new w9 [p] #[.string p] 1 rfl rfl (by unfold maxLen; omega) (fun x hx => by simp at hx; subst hx; unfold maxLen; omega))
                have HOW2 := hide ((HOW.out.kept hb9).alloc (.cells #[.string p] 9))
                have hB9 := HBK.out.trans (hb9.mono HBK.out.size)
                have HB2 := hide (hB9.alloc hB9.size (.cells #[.string p] 9))
                clear hb9 hB9
                go_wp2_with (at_builtin; refine wpList_append_texts rfl _ _ rfl w1.heap.size u5 _ (done.map tx) [p] rfl HOW2.out rfl HNEW.out (by simp; omega) HB2.out.size ?_)
                intro v2 w2 hown2 hg2
                have hb2 : Below w1.heap.size w1 w2 := HOW2.out.grown_below HB2.out hg2 (Nat.le_refl _) HB2.out.size
                rw [tx_snoc] at hown2
                go_wp2
                exact ⟨⟨k + 1, done ++ [bl p], by omega, by go_num, hn1.out, by simp; omega, hown2, hb2⟩, by simp [intOf]; omega⟩
              | false =>
                rw [hrt] at hri
                have hn1 : Hid (partsS (bl s) = ([], false, 17)) := partsS_none (by rw [HWK.out, walkS_bad (not_or.2 ⟨c1, c2⟩) (not_or.2 ⟨c3, by rw [hrt]; exact Bool.false_ne_true⟩)]; rfl)
                clear hq c1 c2 c3 hB hrt
                go_wp2_with fail
                refine (hri _).mono ?_
                rintro e w9 ⟨rfl, hb9⟩
                have hB9 := HBK.out.trans (hb9.mono HBK.out.size)
                go_wp2
                go_ret3
                rw [hn1.out]
                exact ⟨_, rfl, SRow.nil _, HA.out.trans (hB9.mono HA.out.size)⟩
      · obtain rfl : k = n := by omega
        have hwk := HWK.out
        rw [List.drop_of_length_le (by rw [← pieces_cut, List.length_map, HN.out]; exact Nat.le_refl _)] at hwk
        have hps : Hid (partsS (bl s) = (done, decide ((bl s).head? = some 47), 0)) := partsS_some HL.out.1 HL.out.2 (by rw [hwk]; simp [walkS])
        have h0 : 0 < s.size := by omega
        have hh := head_slash h0
        generalize decide ((bl s).head? = some 47) = top at *
        have HB := hide (HA.out.trans (hbk.mono HA.out.size))
        have HOW := hide how.row
        clear hwk how hbk
        go_wp2_with fail
        go_quiet (fail)
        go_wp2
        go_ret3
        rw [hps.out]
        have hd := below_drewN wr nq
        exact ⟨_, rfl, HOW.out.below hd, HB.out.trans (hd.mono HB.out.size)⟩
  · rw [partsS_long hl]
    have hl' : ¬ (1 ≤ (s.size : Int) ∧ (s.size : Int) ≤ 400) := by rw [bl_length] at hl; omega
    rw [decide_eq_false hl'] at hz
    clear hl hl'
    go_enter Tryd.func11, Tryd.ntmps11
    go_wp2_with fail
    refine hz.mono ?_
    rintro e w1 ⟨rfl, rfl⟩
    go_wp2
    go_ret3
    exact ⟨_, rfl, SRow.nil _, Below.refl _ _⟩

set_option maxHeartbeats 2000000 in
theorem Split_any (w : World) (s : ByteArray) (hs : s.size ≤ maxLen) : Calls Tryd.prog 9 #[.string s] w (SaysS (splitS (bl s)) w) := by
  have hp := Parts_any w s hs
  have hr : splitS (bl s) = if (partsS (bl s)).2.2 = 0 then (if (partsS (bl s)).2.1 = true then ((partsS (bl s)).1, 0) else ([], 17)) else ([], 17) := rfl
  have he := partsS_err (bl s)
  generalize partsS (bl s) = r at *
  obtain ⟨ns, top, er⟩ := r
  simp only at hr he
  have HR := hide hr
  clear hr hs
  rcases he with rfl | rfl
  · cases top with
    | true =>
      go_enter Tryd.func9, Tryd.ntmps9
      go_wp2_with fail
      refine hp.mono ?_
      rintro e w1 ⟨v, rfl, hv, hb⟩
      go_wp2
      go_ret2
      rw [HR.out]
      exact ⟨_, rfl, hv, hb⟩
    | false =>
      go_enter Tryd.func9, Tryd.ntmps9
      go_wp2_with fail
      refine hp.mono ?_
      rintro e w1 ⟨v, rfl, hv, hb⟩
      go_wp2
      go_ret2
      rw [HR.out]
      exact ⟨_, rfl, SRow.nil _, hb⟩
  · go_enter Tryd.func9, Tryd.ntmps9
    go_wp2_with fail
    refine hp.mono ?_
    rintro e w1 ⟨v, rfl, hv, hb⟩
    go_wp2
    go_ret2
    rw [HR.out]
    exact ⟨_, rfl, SRow.nil _, hb⟩
end Go.Proofs.YtoffgmkkkdklpaaDoor
