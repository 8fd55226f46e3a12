/- The walk of the law FnRanges: for every two lists of bytes its call returns true and writes nothing that was there. -/
import Derived.Test.YtkpfjjkblfjodaaDrawl
import Derived.Test.YtkpfjjkblfjodaaRangesMath
import Derived.Test.YtkpfjjkblfjodaaEdges
import Derived.Test.YtkpfjjkblfjodaaWalkS
namespace Go.Proofs.Ytkpfjjkblfjodaa
open Go.RowKit Go.Deep

/-- What the last part of the law needs of a sum. -/
theorem sum_tail {s : Nat} (h : isNan s = true → s = 9221120237041090561) : (isNan s = false) ∨ (isNan s = true ∧ ((s : Int) == 9221120237041090561) = true) := by
  cases hn : isNan s
  · exact .inl rfl
  · refine .inr ⟨rfl, ?_⟩
    rw [h hn]; rfl

set_option maxRecDepth 100000 in
set_option maxHeartbeats 4000000 in
theorem walk_fnRanges (w : World) (ao : Option Addr) (c n : Nat) (bo : Option Addr) (d m : Nat) (ha : BRow w w.heap.size ao n) (hb : BRow w w.heap.size bo m) :
    Calls Try.prog 4 #[.slice ao n c, .slice bo m d] w fun e w' => e = .returned (.bool true) ∧ Below w.heap.size w w' := by
  have HA := Lib.hid ha
  have HB := Lib.hid hb
  clear ha hb
  by_cases hbig : 1048576 < n + m
  · go_enter Try.func4, Try.ntmps4
    go_wp2_with fail
    refine (big15 w ao bo n m c d).mono ?_
    rintro e w1 ⟨rfl, rfl⟩
    go_wp2
    go_ret
    exact ⟨rfl, Below.refl _ _⟩
  go_enter Try.func4, Try.ntmps4
  go_wp2_with fail
  refine (big15 w ao bo n m c d).mono ?_
  rintro e w1 ⟨rfl, rfl⟩
  go_wp2_with fail
  refine (draw34 w ao n c HA.out (by omega)).mono ?_
  rintro e w1 ⟨lo, lc, xs, hl, rfl, hF, hb1⟩
  have HF := Lib.hid hF; have HB1 := Lib.hid hb1; clear hF hb1
  by_cases h200 : xs.length ≤ 200
  · go_wp2_with fail
    refine (range35 w1 _ _ xs HF.out h200).mono ?_
    rintro e w2 ⟨rfl, rfl⟩
    go_wp2_with fail
    refine (range36 _ _ _ xs HF.out h200).mono ?_
    rintro e w2 ⟨rfl, rfl⟩
    have HR := Lib.hid (ranged xs)
    generalize rngB xs = q at HR
    obtain ⟨l, h, f⟩ := q
    have s1 := sameB_refl l
    have s2 := sameB_refl h
    cases f
    · go_wp2_with (go_at_call 21; refine (sameV21 _ _ _).mono ?_; rintro e w' ⟨rfl, rfl⟩)
      clear s1 s2
      refine (draw37 w1 bo m d (HB.out.below HB1.out) (by omega)).mono ?_
      rintro e w2 ⟨mo, mc, ys, hly, rfl, hF2, hb2⟩
      have HF2 := Lib.hid hF2; have HB2 := Lib.hid (HB1.out.trans (hb2.mono HB1.out.size)); clear hF2 hb2
      by_cases hy200 : ys.length ≤ 200
      · go_wp2_with fail
        refine (sum38 w2 _ _ ys HF2.out hy200).mono ?_
        rintro e w3 ⟨rfl, q3, rfl⟩
        go_wp2_with fail
        refine (sum39 _ _ _ ys (HF2.out.drewN q3) hy200).mono ?_
        rintro e w4 ⟨rfl, q4, rfl⟩
        have ht := sum_tail (clean_nan ys)
        have hsl := clean_lt ys
        generalize cleanB (sumB ys) = s at ht hsl
        have s3 := sameB_refl s
        have k3 := kindB_zero s
        have k4 : (kindB s != 0) = !isNan s := by rw [← k3]; rfl
        rcases ht with ht | ⟨ht, hbits⟩
        all_goals
          rw [ht] at k3 k4
          simp only [Bool.not_true, Bool.not_false] at k4
          go_wp2_with (first | (go_at_call 21; refine (sameV21 _ _ _).mono ?_; rintro e w' ⟨rfl, rfl⟩) | (go_at_call 18; refine (kind18 _ (by assumption) _).mono ?_; rintro e w' ⟨rfl, rfl⟩) | (go_at_call 17; refine (bits17 _ _).mono ?_; rintro e w' ⟨rfl, rfl⟩))
          go_ret
          first | exact ⟨rfl, below_drewN HB2.out _⟩ | exact ⟨rfl, below_drewN (below_drewN HB2.out q3) q4⟩
      · go_wp2_with fail
        refine (sum38_no w2 _ _ _ (by omega)).mono ?_
        rintro e w3 ⟨rfl, rfl⟩
        go_wp2_with fail
        refine (sum39_no _ _ _ _ (by omega)).mono ?_
        rintro e w4 ⟨rfl, rfl⟩
        have s3 := sameB_refl 0
        have k4 : (kindB 0 != 0) = true := by decide
        go_wp2_with (first | (go_at_call 21; refine (sameV21 _ _ _).mono ?_; rintro e w' ⟨rfl, rfl⟩) | (go_at_call 18; refine (kind18 _ (by decide) _).mono ?_; rintro e w' ⟨rfl, rfl⟩))
        go_ret
        exact ⟨rfl, HB2.out⟩
    · obtain ⟨hml, hmh, nl, nh, hall⟩ := HR.out.2 rfl
      have hll : l < 18446744073709551616 := HF.out.wf l hml
      have hhl : h < 18446744073709551616 := HF.out.wf h hmh
      have HL := Lib.hid (seenB_mem hml); have HH := Lib.hid (seenB_mem hmh); have HN := Lib.hid hall
      clear hml hmh nl nh hall
      go_wp2_with (go_at_call 21; refine (sameV21 _ _ _).mono ?_; rintro e w' ⟨rfl, rfl⟩)
      clear s1 s2
      go_loop [12, 13, 56] (fun a b i => ∃ (k : Nat) (A C : Bool), k ≤ xs.length ∧ i = .int .i64 k ∧ a = .bool A ∧ b = .bool C ∧ Hid (A = seenB (xs.take k) l ∧ C = seenB (xs.take k) h)) (fun _ _ i => xs.length - (intOf i).toNat)
      case atStart => exact ⟨0, false, false, Nat.zero_le _, rfl, rfl, rfl, Lib.hid ⟨rfl, rfl⟩⟩
      case round =>
        obtain ⟨k, A, C, hk, rfl, rfl, rfl, hS⟩ := hrel
        by_cases hlt : k < xs.length
        · obtain ⟨b, off, hao, hbl, hc⟩ := HF.out.rows (by omega)
          subst hao
          have hck := hc k hlt
          have hmem : xs.getD k 0 ∈ xs := by simp [List.getD, hlt]
          have hx : xs.getD k 0 < 18446744073709551616 := HF.out.wf _ hmem
          have HX := Lib.hid (HN.out _ hmem)
          have HS2 : Hid (seenB (xs.take (k + 1)) l = (A || sameB (xs.getD k 0) l) ∧ seenB (xs.take (k + 1)) h = (C || sameB (xs.getD k 0) h)) := Lib.hid (by rw [take_snoc hlt, seenB_snoc, seenB_snoc, ← hS.out.1, ← hS.out.2]; exact ⟨rfl, rfl⟩)
          clear hc hmem
          generalize xs.getD k 0 = x at hck hx HX HS2
          have k3 := kindB_zero x
          have k4 : (kindB x != 0) = !isNan x := by rw [← k3]; rfl
          cases hnx : isNan x
          · obtain ⟨e1, e2⟩ := HX.out hnx
            rw [hnx] at k3 k4
            simp only [Bool.not_false] at k4
            cases A <;> cases C
            all_goals
              go_wp2_with (first | (go_at_call 21; refine (sameV21 _ _ _).mono ?_; rintro e w' ⟨rfl, rfl⟩) | (go_at_call 18; refine (kind18 _ (by assumption) _).mono ?_; rintro e w' ⟨rfl, rfl⟩) | (go_at_call 25; refine (less25 _ _ (by assumption) (by assumption) _).mono ?_; rintro e w' ⟨rfl, rfl⟩))
              go_round
              case rel => exact ⟨k + 1, _, _, by omega, by go_num, rfl, rfl, Lib.hid ⟨by rw [HS2.out.1]; rfl, by rw [HS2.out.2]; rfl⟩⟩
              case measure => simp [intOf]; omega
          · rw [hnx] at k3 k4
            simp only [Bool.not_true] at k4
            cases A <;> cases C
            all_goals
              go_wp2_with (first | (go_at_call 21; refine (sameV21 _ _ _).mono ?_; rintro e w' ⟨rfl, rfl⟩) | (go_at_call 18; refine (kind18 _ (by assumption) _).mono ?_; rintro e w' ⟨rfl, rfl⟩))
              go_round
              case rel => exact ⟨k + 1, _, _, by omega, by go_num, rfl, rfl, Lib.hid ⟨by rw [HS2.out.1]; rfl, by rw [HS2.out.2]; rfl⟩⟩
              case measure => simp [intOf]; omega
        · have hA : A = true := by rw [hS.out.1, List.take_of_length_le (by omega)]; exact HL.out
          have hC : C = true := by rw [hS.out.2, List.take_of_length_le (by omega)]; exact HH.out
          subst hA hC
          go_wp2_with fail
          refine (draw37 w1 bo m d (HB.out.below HB1.out) (by omega)).mono ?_
          rintro e w2 ⟨mo, mc, ys, hly, rfl, hF2, hb2⟩
          have HF2 := Lib.hid hF2; have HB2 := Lib.hid (HB1.out.trans (hb2.mono HB1.out.size)); clear hF2 hb2
          by_cases hy200 : ys.length ≤ 200
          · go_wp2_with fail
            refine (sum38 w2 _ _ ys HF2.out hy200).mono ?_
            rintro e w3 ⟨rfl, q3, rfl⟩
            go_wp2_with fail
            refine (sum39 _ _ _ ys (HF2.out.drewN q3) hy200).mono ?_
            rintro e w4 ⟨rfl, q4, rfl⟩
            have ht := sum_tail (clean_nan ys)
            have hsl := clean_lt ys
            generalize cleanB (sumB ys) = s at ht hsl
            have s3 := sameB_refl s
            have k3 := kindB_zero s
            have k4 : (kindB s != 0) = !isNan s := by rw [← k3]; rfl
            rcases ht with ht | ⟨ht, hbits⟩
            all_goals
              rw [ht] at k3 k4
              simp only [Bool.not_true, Bool.not_false] at k4
              go_wp2_with (first | (go_at_call 21; refine (sameV21 _ _ _).mono ?_; rintro e w' ⟨rfl, rfl⟩) | (go_at_call 18; refine (kind18 _ (by assumption) _).mono ?_; rintro e w' ⟨rfl, rfl⟩) | (go_at_call 17; refine (bits17 _ _).mono ?_; rintro e w' ⟨rfl, rfl⟩))
              go_ret
              first | exact ⟨rfl, below_drewN HB2.out _⟩ | exact ⟨rfl, below_drewN (below_drewN HB2.out q3) q4⟩
          · go_wp2_with fail
            refine (sum38_no w2 _ _ _ (by omega)).mono ?_
            rintro e w3 ⟨rfl, rfl⟩
            go_wp2_with fail
            refine (sum39_no _ _ _ _ (by omega)).mono ?_
            rintro e w4 ⟨rfl, rfl⟩
            have s3 := sameB_refl 0
            have k4 : (kindB 0 != 0) = true := by decide
            go_wp2_with (first | (go_at_call 21; refine (sameV21 _ _ _).mono ?_; rintro e w' ⟨rfl, rfl⟩) | (go_at_call 18; refine (kind18 _ (by decide) _).mono ?_; rintro e w' ⟨rfl, rfl⟩))
            go_ret
            exact ⟨rfl, HB2.out⟩
  · go_wp2_with fail
    refine (range35_no w1 _ _ _ (by omega)).mono ?_
    rintro e w2 ⟨rfl, rfl⟩
    go_wp2_with fail
    refine (range36_no _ _ _ _ (by omega)).mono ?_
    rintro e w2 ⟨rfl, rfl⟩
    have s1 := sameB_refl 0
    go_wp2_with (go_at_call 21; refine (sameV21 _ _ _).mono ?_; rintro e w' ⟨rfl, rfl⟩)
    clear s1
    refine (draw37 w1 bo m d (HB.out.below HB1.out) (by omega)).mono ?_
    rintro e w2 ⟨mo, mc, ys, hly, rfl, hF2, hb2⟩
    have HF2 := Lib.hid hF2; have HB2 := Lib.hid (HB1.out.trans (hb2.mono HB1.out.size)); clear hF2 hb2
    by_cases hy200 : ys.length ≤ 200
    · go_wp2_with fail
      refine (sum38 w2 _ _ ys HF2.out hy200).mono ?_
      rintro e w3 ⟨rfl, q3, rfl⟩
      go_wp2_with fail
      refine (sum39 _ _ _ ys (HF2.out.drewN q3) hy200).mono ?_
      rintro e w4 ⟨rfl, q4, rfl⟩
      have ht := sum_tail (clean_nan ys)
      have hsl := clean_lt ys
      generalize cleanB (sumB ys) = s at ht hsl
      have s3 := sameB_refl s
      have k3 := kindB_zero s
      have k4 : (kindB s != 0) = !isNan s := by rw [← k3]; rfl
      rcases ht with ht | ⟨ht, hbits⟩
      all_goals
        rw [ht] at k3 k4
        simp only [Bool.not_true, Bool.not_false] at k4
        go_wp2_with (first | (go_at_call 21; refine (sameV21 _ _ _).mono ?_; rintro e w' ⟨rfl, rfl⟩) | (go_at_call 18; refine (kind18 _ (by assumption) _).mono ?_; rintro e w' ⟨rfl, rfl⟩) | (go_at_call 17; refine (bits17 _ _).mono ?_; rintro e w' ⟨rfl, rfl⟩))
        go_ret
        first | exact ⟨rfl, below_drewN HB2.out _⟩ | exact ⟨rfl, below_drewN (below_drewN HB2.out q3) q4⟩
    · go_wp2_with fail
      refine (sum38_no w2 _ _ _ (by omega)).mono ?_
      rintro e w3 ⟨rfl, rfl⟩
      go_wp2_with fail
      refine (sum39_no _ _ _ _ (by omega)).mono ?_
      rintro e w4 ⟨rfl, rfl⟩
      have s3 := sameB_refl 0
      have k4 : (kindB 0 != 0) = true := by decide
      go_wp2_with (first | (go_at_call 21; refine (sameV21 _ _ _).mono ?_; rintro e w' ⟨rfl, rfl⟩) | (go_at_call 18; refine (kind18 _ (by decide) _).mono ?_; rintro e w' ⟨rfl, rfl⟩))
      go_ret
      exact ⟨rfl, HB2.out⟩
end Go.Proofs.Ytkpfjjkblfjodaa
