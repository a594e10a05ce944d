/-
  garretlaw08's awake.
-/
import Derived.Test.YtgkgbbffgcmekaaHalfR
import Derived.Test.YtgkgbbffgcmekaaHalfD
import Derived.Test.YtgkgbbffgcmekaaHalfE
namespace Go.Proofs.Ytgkgbbffgcmekaa
open Go.RowKit
set_option linter.unusedVariables false
set_option maxRecDepth 100000

theorem RightG.new {A B : Nat} {c d e : Int} (hr : rightS A B c d e = true) : RightG (NSt.new A B c d e) := hr
theorem blank_found (Z : Nat) : Found (List.replicate Z 255) [] 0 := .stop (by have := firstS_torn [] (by simp) 0 Z (by simp); simpa using this)
theorem one_found (b : List Int) (hl : b.length ≤ 65000) (z : Nat) : Found (recB b ++ List.replicate z 255) [b] (b.length + 7) := by
  have := found_recs (bs := [b]) (rest := List.replicate z 255) (fun c hc => by simp at hc; subst hc; exact hl) (blank_found z)
  simpa [recs, recB_length] using this

set_option maxHeartbeats 1000000 in
theorem awake_any (w : World) : Calls Try.prog 12 #[] w fun e w' => e = .returned (.bool true) ∧ Below w.heap.size w w' := by
  have hp := fun w => play_full w 0 0 0 0 0
  unfold gcells at hp
  go_enter Try.func12, Try.ntmps12
  go_wp2_with fail
  refine (hp _).mono ?_
  rintro x w1 ⟨A, B, c, d, e, rfl, hr, hA, hB, hB1⟩
  obtain rfl := hA trivial
  obtain rfl := hB trivial
  go_wp2_with fail
  refine (New_any _).mono ?_
  rintro x w2 ⟨rfl, hw2⟩
  have HW2 := hide hw2
  clear hw2
  go_wp2_with fail
  refine (NewNor_right w2 2 256 c d e _ hr).mono ?_
  rintro x w3 ⟨k, bb, eb, rfl, hmade⟩
  have hK := hmade.kept hB1 HW2.out
  have ok := NSt.new_ok hr 0
  have hrg := RightG.new hr
  have hlt := hK.dev.2.lt
  have hsz := hK.size
  clear HW2 hmade hB1 hr
  generalize hL : (⟨k, w1.heap.size, bb, eb⟩ : Lay) = L at *
  obtain rfl : k = L.c := by rw [← hL]
  have HP1 : Hid (w1.heap.size = L.pb) := by unfold Hid; rw [← hL]
  clear hL
  generalize hbase : w3.heap.size = base at *
  have HZ : Hid (halfZ (NSt.new 2 256 c d e) = 256) := hide (by simp [halfZ, NSt.new])
  have HBS : Hid ((NSt.new 2 256 c d e).bs = List.replicate 512 255) := rfl
  generalize NSt.new 2 256 c d e = N at *
  have ha : appH PSt.zero N 1 0 [7] = (0, { PSt.zero with steps := 8 }, over N.bs (1 * halfZ N + 0) (recB [7])) := by
    have := app_free (S := PSt.zero) (N := N) (H := 1) (q := 0) (b := [7]) ok (by omega) (by simp) (by rw [HZ.out]; simp) rfl rfl (fun j hj => by
      rw [HBS.out, HZ.out, part_new _ (by omega) (by omega)]
      exact getD_rep7 (by simp at hj; omega))
    exact this
  have ok2 := ok.bytes (xs := over N.bs (1 * halfZ N + 0) (recB [7])) (over_length _ _ _) (over_bys ok.bys (recB_bys (by intro x hx; simp at hx; omega)) _)
  have hrd : readH { N with bs := over N.bs (1 * halfZ N + 0) (recB [7]) } 1 = (0, recB [7] ++ List.replicate 248 255) := by
    have h1 := readH_bytes (H := 1) ok (bs := over N.bs (1 * halfZ N + 0) (recB [7])) (over_length _ _ _) (over_bys ok.bys (recB_bys (by intro x hx; simp at hx; omega)) _) (by omega)
    have h2 : part (over N.bs (1 * halfZ N + 0) (recB [7])) 1 (halfZ N) = recB [7] ++ List.replicate 248 255 := by
      rw [part_over (bs := N.bs) (H := 1) (recB [7]) 0 (by rw [recB_length, HZ.out]; simp) (part_fits ok (by omega)), HZ.out, HBS.out, part_new _ (by omega) (by omega), over_rep _ _ _ (by rw [recB_length]; simp), recB_length]
      rfl
    rw [h2] at h1
    exact h1
  have HA := hide ha
  have HR := hide hrd
  clear ha hrd
  have happ := HAppend_any base _ L PSt.zero N 0 (hK.alloc (.cells #[.int .u8 7] 5)).dev (PSt.zero_ok 0) ok hrg (by omega) (hK.alloc (.cells #[.int .u8 7] 5)).size 1 0 (by decide) _ [7] (row_new1 w3 7 (by omega))
  rw [HA.out, hbase] at happ
  go_wp2_with fail
  refine happ.mono ?_
  rintro x w4 ⟨rfl, hD4, hO4⟩
  have hK4 := (hK.alloc (.cells #[.int .u8 7] 5)).turn hD4 (hO4.wide (by simp))
  clear happ hD4 hO4 hK
  have hrd4 := HRead_any base w4 L _ 0 hK4.dev.2 ok2 hrg 1
  rw [HR.out] at hrd4
  go_wp2_with fail
  refine hrd4.mono ?_
  rintro x w5 ⟨v, rfl, hown, hb5⟩
  have hK5 := hK4.below' hb5
  have hrow := hown.row
  have hlen : (recB [7] ++ List.replicate 248 255).length = 256 := by rw [List.length_append, recB_length]; simp
  have hsc := Scan_known hrow (by rw [hlen]; omega) (one_found [7] (by simp) 248)
  clear hrd4 hb5 hK4 hown hrow hlen
  go_wp2_with fail
  refine hsc.mono ?_
  rintro x w6 ⟨u, us, rfl, hv, ho, hb6⟩
  have hus : us.length = 1 := ho.1
  obtain ⟨ua, uc, rfl⟩ := hv.vals.of_len
  rw [hus]
  have hB6 := hK5.below' hb6
  have hsz6 := HSize_any
  clear hsc hv ho hb6 hK5
  go_wp2_with fail
  refine (hp _).mono ?_
  rintro x w7 ⟨A, B, c', d', e', rfl, hr', hA', hB', hB7⟩
  obtain rfl := hA' trivial
  obtain rfl := hB' trivial
  have hs7 := HSize_any w7 2 256 c' d' e' hr'
  unfold gcells at hs7
  go_wp2_with fail
  refine hs7.mono ?_
  rintro x w8 ⟨rfl, hB8⟩
  have hF := (hB6.below' hB7).below' hB8
  go_wp2
  go_ret
  exact ⟨rfl, hF.below⟩
end Go.Proofs.Ytgkgbbffgcmekaa
