/- The walk of the law FnEdges: for every two lists of bytes its call returns true and writes nothing that was there. -/
import Derived.Test.YtkpfjjkblfjodaaDraws
namespace Go.Proofs.Ytkpfjjkblfjodaa
open Go.RowKit Go.Deep

theorem kindB_bounds (x : Nat) : 0 ≤ kindB x ∧ kindB x ≤ 4 := by
  unfold kindB; repeat' split
  all_goals omega

theorem big15 (w : World) (ao bo : Option Addr) (n m c d : Nat) : Calls Try.prog 15 #[.slice ao n c, .slice bo m d] w fun e w' => e = .returned (.bool (decide (1048576 < n + m))) ∧ w = w' := by
  by_cases h1 : 1048576 < n
  · go_enter Try.func15, Try.ntmps15
    go_wp2
    go_ret
    exact ⟨ret_bool (by simp; omega), rfl⟩
  · go_enter Try.func15, Try.ntmps15
    go_wp2
    go_ret
    exact ⟨ret_bool (by rw [Bool.eq_iff_iff]; simp; omega), rfl⟩

theorem stale_nan {s : Nat} (h : staleB s = true) : isNan s = true := by
  have : s = 9218868437227405314 := by simpa [staleB] using h
  subst this; decide

/-- How two values stand to each other. -/
theorem three {y z : Nat} (hy : y < 18446744073709551616) (hz : z < 18446744073709551616) :
    (lessB y z = true ∧ lessB z y = false ∧ sameB y z = false ∧ (FloatKind.f64.format.order y z == some Ordering.gt) = false) ∨
    (lessB y z = false ∧ lessB z y = true ∧ sameB y z = false) ∨ (lessB y z = false ∧ lessB z y = false ∧ sameB y z = true) := by
  cases h1 : lessB y z
  · cases h2 : lessB z y
    · have := less_total hy hz h1 h2
      exact .inr (.inr ⟨rfl, rfl, by rw [this]; exact sameB_refl _⟩)
    · refine .inr (.inl ⟨rfl, rfl, ?_⟩)
      cases h3 : sameB y z
      · rfl
      · have e : y = z := by simpa [sameB] using h3
        rw [e, less_irrefl] at h2; cases h2
  · refine .inl ⟨rfl, less_asymm h1, ?_, less_gt hy hz h1⟩
    cases h3 : sameB y z
    · rfl
    · have e : y = z := by simpa [sameB] using h3
      rw [e, less_irrefl] at h1; cases h1

set_option maxRecDepth 100000 in
set_option maxHeartbeats 4000000 in
theorem walk_fnEdges (w : World) (ao : Option Addr) (c n : Nat) (bo : Option Addr) (d m : Nat) (ha : BRow w w.heap.size ao n) (hb : BRow w w.heap.size bo m) :
    Calls Try.prog 3 #[.slice ao n c, .slice bo m d] w fun e w' => e = .returned (.bool true) ∧ Below w.heap.size w w' := by
  have HA := Lib.hid ha
  have HB := Lib.hid hb
  clear ha hb
  by_cases hbig : 1048576 < n + m
  · go_enter Try.func3, Try.ntmps3
    go_wp2_with fail
    refine (big15 w ao bo n m c d).mono ?_
    rintro e w1 ⟨rfl, rfl⟩
    go_wp2
    go_ret
    exact ⟨rfl, Below.refl _ _⟩
  go_enter Try.func3, Try.ntmps3
  go_wp2_with fail
  refine (big15 w ao bo n m c d).mono ?_
  rintro e w1 ⟨rfl, rfl⟩
  go_wp2_with fail
  refine (draw16 w ao n c HA.out (by omega)).mono ?_
  rintro e w1 ⟨x, hx, rfl, hb1⟩
  have HB1 := Lib.hid hb1; clear hb1
  go_wp2_with (first | (go_at_call 17; refine (bits17 _ _).mono ?_; rintro e w' ⟨rfl, rfl⟩) | (go_at_call 18; refine (kind18 _ hx _).mono ?_; rintro e w' ⟨rfl, rfl⟩))
  refine (draw19 w1 bo m d (HB.out.below HB1.out) (by omega)).mono ?_
  rintro e w2 ⟨u, hu, rfl, hb2⟩
  have HB2 := Lib.hid (HB1.out.trans (hb2.mono HB1.out.size)); clear hb2
  have k0 := kindB_zero x
  obtain ⟨k1, k2⟩ := kindB_bounds x
  have o1 := order_self x
  have o2 := order_zero x
  have s1 := sameB_refl x
  go_wp2_with (first | (go_at_call 17; refine (bits17 _ _).mono ?_; rintro e w' ⟨rfl, rfl⟩) | (go_at_call 20; refine (bits20 _ _).mono ?_; rintro e w' ⟨rfl, rfl⟩) | (go_at_call 21; refine (sameV21 _ _ _).mono ?_; rintro e w' ⟨rfl, rfl⟩) | (go_at_call 22; refine (from22 _ _).mono ?_; rintro e w' ⟨rfl, rfl⟩) | (go_at_call 23; refine (kind23 _ hx _).mono ?_; rintro e w' ⟨rfl, rfl⟩))
  clear k0 k1 k2 o1 o2 s1
  refine (draw24 w2 bo m d (HB.out.below HB2.out) (by omega)).mono ?_
  rintro e w3 ⟨y, z, hy, hz, rfl, hb3⟩
  have HB3 := Lib.hid (HB2.out.trans (hb3.mono HB2.out.size)); clear hb3
  have HT : Hid (lessB x y = true → lessB y z = true → lessB x z = true) := Lib.hid fun h1 h2 => less_trans h1 h2
  rcases three hy hz with ⟨l1, l2, l3, l4⟩ | ⟨l1, l2, l3⟩ | ⟨l1, l2, l3⟩
  all_goals
    cases lx : lessB x y
    all_goals
      have lz : lessB x y = true → lessB y z = true → lessB x z = true := HT.out
      rw [lx, l1] at lz
      simp only [Bool.false_eq_true, false_implies, true_implies] at lz
      go_wp2_with (first | (go_at_call 25; refine (less25 _ _ (by assumption) (by assumption) _).mono ?_; rintro e w' ⟨rfl, rfl⟩) | (go_at_call 26; refine (same26 _ _ _).mono ?_; rintro e w' ⟨rfl, rfl⟩) | (go_at_call 27; refine (less27 _ _ (by assumption) (by assumption) _).mono ?_; rintro e w' ⟨rfl, rfl⟩) | (go_at_call 28; refine (same28 _ _ _).mono ?_; rintro e w' ⟨rfl, rfl⟩))
      refine (draw29 w3 bo m d (HB.out.below HB3.out) (by omega)).mono ?_
      rintro e w4 ⟨s, hs, rfl, hb4⟩
      have HB4 := Lib.hid (HB3.out.trans (hb4.mono HB3.out.size)); clear hb4
      clear lz lx
      try clear l4
      clear l1 l2 l3
      have k0 := kindB_zero s
      have m1 : staleB 9218868437227405314 = true := by decide
      have m2 := sameB_refl 9218868437227405314
      have HS : Hid (staleB s = true → isNan s = true) := Lib.hid stale_nan
      cases hst : staleB s
      · go_wp2_with (first | (go_at_call 30; refine (stale30 _ _).mono ?_; rintro e w' ⟨rfl, rfl⟩) | (go_at_call 31; refine (stale31 _ _).mono ?_; rintro e w' ⟨rfl, rfl⟩) | (go_at_call 32; refine (mark32 _).mono ?_; rintro e w' ⟨rfl, rfl⟩) | (go_at_call 33; refine (mark33 _).mono ?_; rintro e w' ⟨rfl, rfl⟩) | (go_at_call 21; refine (sameV21 _ _ _).mono ?_; rintro e w' ⟨rfl, rfl⟩))
        go_ret
        exact ⟨rfl, HB4.out⟩
      · have hn := HS.out hst
        rw [hn] at k0
        go_wp2_with (first | (go_at_call 30; refine (stale30 _ _).mono ?_; rintro e w' ⟨rfl, rfl⟩) | (go_at_call 31; refine (stale31 _ _).mono ?_; rintro e w' ⟨rfl, rfl⟩) | (go_at_call 32; refine (mark32 _).mono ?_; rintro e w' ⟨rfl, rfl⟩) | (go_at_call 33; refine (mark33 _).mono ?_; rintro e w' ⟨rfl, rfl⟩) | (go_at_call 21; refine (sameV21 _ _ _).mono ?_; rintro e w' ⟨rfl, rfl⟩) | (go_at_call 18; refine (kind18 _ (by assumption) _).mono ?_; rintro e w' ⟨rfl, rfl⟩))
        go_ret
        exact ⟨rfl, HB4.out⟩
end Go.Proofs.Ytkpfjjkblfjodaa
