/-
  The contracts of package frame: first.
-/
import Derived.Test.YtgkgbbffgcmekaaFrameA
namespace Go.Proofs.Ytgkgbbffgcmekaa
open Go.RowKit
set_option linter.unusedVariables false
set_option maxRecDepth 100000

theorem or_len (x y : Int) (hx : 0 ≤ x ∧ x < 256) (hy : 0 ≤ y ∧ y < 256) : bits .or .i64 x (y * 256) = x + y * 256 := by
  obtain ⟨X, rfl⟩ := Int.eq_ofNat_of_zero_le hx.1
  obtain ⟨Y, rfl⟩ := Int.eq_ofNat_of_zero_le hy.1
  show IntKind.i64.wrap ((BitVec.ofInt 64 (X : Int) ||| BitVec.ofInt 64 ((Y : Int) * 256)).toNat : Int) = _
  rw [show ((Y : Int) * 256) = ((Y * 256 : Nat) : Int) from by omega, BitVec.toNat_or, ofInt_u64 X (by omega), ofInt_u64 (Y * 256) (by omega), Nat.or_comm, nat_join 8 _ _ (by omega) (by omega)]
  simp [IntKind.wrap, IntKind.bits, IntKind.signed]
  omega
/-- What first answers. -/
def FirstA (w : World) (xs : List Int) (e : Ending) (w' : World) : Prop :=
  match firstS xs with
  | none => ∃ u, e = .returned (.tuple #[u, .bool false])
  | some b => ∃ g off cap, e = .returned (.tuple #[.slice (some ⟨g, off, none⟩) b.length cap, .bool true]) ∧ Row w (.slice (some ⟨g, off, none⟩) b.length cap) b

set_option maxHeartbeats 1000000 in
theorem first_any (w : World) (v : Value) (xs : List Int) (h : Row w v xs) :
    Calls Try.prog 49 #[v] w fun e w' => FirstA w xs e w' ∧ Below w.heap.size w w' := by
  have hby := h.bys
  have hlm := h.len
  unfold maxLen at hlm
  by_cases h7 : xs.length < 7
  · have e : firstS xs = none := firstS_short h7
    have h7' : (xs.length : Int) < 7 := by omega
    have hlen := h.lenRun
    have HE := hide e
    clear h e
    go_enter Try.func49, Try.ntmps49
    go_wp2_with fail
    refine (Size_any w 0 (by omega)).mono ?_
    rintro e w1 ⟨rfl, rfl⟩
    go_wp2
    go_ret2
    refine ⟨?_, Below.refl _ _⟩
    unfold FirstA
    rw [HE.out]
    exact ⟨_, rfl⟩
  · obtain ⟨bl, off, cap, rfl, hlc, hbl, hc⟩ := h.at (by intro e; subst e; simp at h7)
    have h7' : (7 : Int) ≤ xs.length := by omega
    have c0 := hc 0 (by omega)
    have c1 := hc 1 (by omega)
    rw [Nat.add_zero] at c0
    have hx := hby.at 0
    have hy := hby.at 1
    have hor := or_len _ _ hx hy
    obtain ⟨n, hn⟩ : ∃ n : Nat, saidN xs = n := ⟨_, rfl⟩
    have hn2 : xs.getD 0 0 + xs.getD 1 0 * 256 = (n : Int) := by unfold saidN at hn; omega
    rw [hn2] at hor
    have hfs : firstS xs = if 65000 < n ∨ xs.length < n + 7 ∨ xs.getD (n + 6) 0 ≠ 0 then none else if fsum ((xs.drop 6).take n) = num ((xs.drop 2).take 4) then some ((xs.drop 6).take n) else none := by
      unfold firstS
      rw [if_neg h7, hn]
    have HC := hide hc
    have HR := hide h
    generalize xs.getD 0 0 = x at *
    generalize xs.getD 1 0 = y at *
    have HN2 := hide hn2
    clear hc hn h hn2
    have H0 : (0 : Int) < xs.length := by omega
    have H1 : (1 : Int) < xs.length := by omega
    by_cases hbig : 65000 < n
    · rw [if_pos (.inl hbig)] at hfs
      have HFS := hide hfs
      have hbig' : (65000 : Int) < n := by omega
      generalize xs.length = len at *
      clear hfs hbig
      go_enter Try.func49, Try.ntmps49
      go_wp2_with fail
      refine (Size_any w 0 (by omega)).mono ?_
      rintro e w1 ⟨rfl, rfl⟩
      go_wp2_with fail
      go_region
      all_goals
        go_wp2
        go_ret2
        refine ⟨?_, below_drewN (Below.refl _ _) _⟩
        unfold FirstA
        rw [HFS.out]
        exact ⟨_, rfl⟩
    · have hbig' : (n : Int) ≤ 65000 := by omega
      by_cases hsh : xs.length < n + 7
      · rw [if_pos (.inr (.inl hsh))] at hfs
        have HFS := hide hfs
        have hsh' : (xs.length : Int) < n + 7 := by omega
        generalize xs.length = len at *
        clear hfs hbig hsh
        go_enter Try.func49, Try.ntmps49
        go_wp2_with fail
        refine (Size_any w 0 (by omega)).mono ?_
        rintro e w1 ⟨rfl, rfl⟩
        go_wp2_with fail
        go_region
        all_goals
          go_wp2_with fail
          refine (Size_any _ n (by omega)).mono ?_
          rintro e w1 ⟨rfl, rfl⟩
          go_wp2
          go_ret2
          refine ⟨?_, below_drewN (Below.refl _ _) _⟩
          unfold FirstA
          rw [HFS.out]
          exact ⟨_, rfl⟩
      · have hsh' : (n : Int) + 7 ≤ xs.length := by omega
        have c6 := HC.out (6 + n) (by omega)
        have ef : xs.getD (n + 6) 0 = xs.getD (6 + n) 0 := by rw [Nat.add_comm]
        rw [ef] at hfs
        have hf := hby.at (6 + n)
        have hbb := (hby.drop 6).take n
        have hl : ((xs.drop 6).take n).length = n := by simp; omega
        have hgt := fun w' (hb : Below w.heap.size w w') => Get_any w' _ xs 2 4 (HR.out.below hb) (by decide) (by decide)
        have hgs : getS xs 2 4 = (num ((xs.drop 2).take 4), 0) := by
          unfold getS
          rw [if_neg (by omega), if_neg (by omega)]
          rfl
        rw [hgs] at hgt
        have hgr := num_range ((hby.drop 2).take 4)
        rw [show ((xs.drop 2).take 4).length = 4 from by simp; omega] at hgr
        generalize num ((xs.drop 2).take 4) = q at *
        generalize xs.getD (6 + n) 0 = f at *
        by_cases h0 : f = 0
        · subst h0
          rw [if_neg (by omega)] at hfs
          have HFS := hide hfs
          have HG := hide hgt
          have HLN := hide hl
          have hcc : (6 : Int) + n ≤ cap := by omega
          have hrb : Row w (.slice (some ⟨bl, off + 6, none⟩) n (cap - 6)) ((xs.drop 6).take n) := by
            have := Row.mk (w := w) (b := bl) (off := off + 6) (cap := cap - 6) (xs := (xs.drop 6).take n) (by rw [hl]; omega) (by have := HR.out.caps; omega) (fun k hk => by
              rw [hl] at hk
              rw [Nat.add_assoc, HC.out (6 + k) (by omega)]
              simp [List.getD, hk]) hbb
            rwa [hl] at this
          have HRB := hide hrb
          have HQ := hide hgr
          generalize xs.length = len at *
          generalize hB : (xs.drop 6).take n = bb at *
          obtain ⟨fs, hfs2⟩ : ∃ z, fsum bb = z := ⟨_, rfl⟩
          rw [hfs2] at HFS
          have HF := hide hfs2
          clear hfs hbig hsh hgt hl hbb hrb hfs2 hB ef
          have hq0 := HQ.out.1
          have hq1 : q < 4294967296 := HQ.out.2
          by_cases hsum : fs = q
          · subst hsum
            go_enter Try.func49, Try.ntmps49
            go_wp2_with fail
            refine (Size_any w 0 (by omega)).mono ?_
            rintro e w1 ⟨rfl, rfl⟩
            go_wp2_with fail
            go_region
            all_goals
              go_wp2_with fail
              refine (Size_any _ n (by omega)).mono ?_
              rintro e w1 ⟨rfl, rfl⟩
              go_wp2_with fail
              rw [show 6 + n - 6 = n from by omega]
              refine (HG.out _ (Below.refl _ _).drew).mono ?_
              rintro e w1 ⟨rfl, rfl⟩
              go_wp2_with fail
              refine (sumOf_any _ _ bb (HRB.out.below (Below.refl _ _).drew) (by rw [HLN.out]; omega)).mono ?_
              rintro e w1 ⟨rfl, hb1⟩
              rw [HF.out]
              go_wp2
              go_ret2
              refine ⟨?_, (Below.refl _ _).drew.trans hb1⟩
              unfold FirstA
              rw [HFS.out]
              first | rw [if_pos rfl] | rw [if_pos trivial]
              simp only [HLN.out]
              exact ⟨bl, off + 6, cap - 6, rfl, HRB.out⟩
          · have hsn : (fs == q) = false := by simpa using hsum
            go_enter Try.func49, Try.ntmps49
            go_wp2_with fail
            refine (Size_any w 0 (by omega)).mono ?_
            rintro e w1 ⟨rfl, rfl⟩
            go_wp2_with fail
            go_region
            all_goals
              go_wp2_with fail
              refine (Size_any _ n (by omega)).mono ?_
              rintro e w1 ⟨rfl, rfl⟩
              go_wp2_with fail
              rw [show 6 + n - 6 = n from by omega]
              refine (HG.out _ (Below.refl _ _).drew).mono ?_
              rintro e w1 ⟨rfl, rfl⟩
              go_wp2_with fail
              refine (sumOf_any _ _ bb (HRB.out.below (Below.refl _ _).drew) (by rw [HLN.out]; omega)).mono ?_
              rintro e w1 ⟨rfl, hb1⟩
              rw [HF.out]
              go_wp2
              go_ret2
              refine ⟨?_, (Below.refl _ _).drew.trans hb1⟩
              unfold FirstA
              rw [HFS.out]
              rw [if_neg hsum]
              exact ⟨_, rfl⟩
        · rw [if_pos (.inr (.inr h0))] at hfs
          have HFS := hide hfs
          have hne : (f != 0) = true := by simpa using h0
          generalize xs.length = len at *
          clear hfs hbig hsh hgt
          go_enter Try.func49, Try.ntmps49
          go_wp2_with fail
          refine (Size_any w 0 (by omega)).mono ?_
          rintro e w1 ⟨rfl, rfl⟩
          go_wp2_with fail
          go_region
          all_goals
            go_wp2_with fail
            refine (Size_any _ n (by omega)).mono ?_
            rintro e w1 ⟨rfl, rfl⟩
            go_wp2
            go_ret2
            refine ⟨?_, below_drewN (Below.refl _ _) _⟩
            unfold FirstA
            rw [HFS.out]
            exact ⟨_, rfl⟩
end Go.Proofs.Ytgkgbbffgcmekaa
