/- The walks of the exact laws of SumValues and RangeOf: for every list each law's call returns true and writes nothing that was there. -/
import Derived.Test.YtkpfjjkblfjodaaLists
import Derived.Test.YtkpfjjkblfjodaaRange
namespace Go.Proofs.Ytkpfjjkblfjodaa
open Go.RowKit Go.Deep

theorem below_drewN {w w1 : World} {B : Nat} (h : Below B w w1) (q : Nat) : Below B w (w1.drewN q) := by
  induction q with
  | zero => exact h
  | succ q ih => exact ih.drew

set_option maxHeartbeats 1000000 in
theorem walk_fnExactSumValues (w : World) (ao : Option Addr) (cap : Nat) (xs : List Nat) (h : FRow w ao xs) :
    Calls Try.prog 11 #[.slice ao xs.length cap] w fun e w' => e = .returned (.bool true) ∧ Below w.heap.size w w' := by
  by_cases hbig : 1048576 < xs.length
  · go_enter Try.func11, Try.ntmps11
    go_wp2
    go_ret
    exact ⟨rfl, Below.refl _ _⟩
  have hn : xs.length ≤ 1048576 := by omega
  have H := Lib.hid h
  clear h
  by_cases h200 : xs.length ≤ 200
  · go_enter Try.func11, Try.ntmps11
    go_wp2_with fail
    refine (copy42 w ao cap xs H.out hn).mono ?_
    rintro e w1 ⟨rfl, hr1, hb1⟩
    have HR1 := Lib.hid hr1; have HB1 := Lib.hid hb1; clear hr1 hb1
    go_wp2_with fail
    refine (sum39 w1 _ _ xs (frow_of H.out.wf HR1.out) h200).mono ?_
    rintro e w2 ⟨rfl, q2, rfl⟩
    have HB2 := Lib.hid (below_drewN HB1.out q2)
    go_wp2_with fail
    refine (copy42 _ ao cap xs (H.out.below HB2.out) hn).mono ?_
    rintro e w3 ⟨rfl, hr3, hb3⟩
    have HR3 := Lib.hid hr3; have HB3 := Lib.hid hb3; clear hr3 hb3
    have HB4 := Lib.hid (HB2.out.trans (HB3.out.mono HB2.out.size))
    have HX := Lib.hid (frow_of H.out.wf HR3.out)
    go_wp2_with fail
    refine (sum38 w3 _ _ xs HX.out h200).mono ?_
    rintro e w4 ⟨rfl, q4, rfl⟩
    go_wp2_with fail
    refine (same41 _ _).mono ?_
    rintro e w5 ⟨rfl, rfl⟩
    have HB5 := Lib.hid (below_drewN HB4.out q4)
    go_wp2_with fail
    refine (copy42 _ ao cap xs (H.out.below HB5.out) hn).mono ?_
    rintro e w6 ⟨rfl, hr6, hb6⟩
    have HR6 := Lib.hid hr6; have HB6 := Lib.hid hb6; clear hr6 hb6
    go_wp2_with fail
    refine (eq43 w6 _ _ _ _ xs ((HX.out.drewN q4).below HB6.out) (frow_of H.out.wf HR6.out) hn).mono ?_
    rintro e w7 ⟨rfl, q7, rfl⟩
    go_wp2
    go_ret
    exact ⟨rfl, below_drewN (HB5.out.trans (HB6.out.mono HB5.out.size)) q7⟩
  · have hgt : 200 < xs.length := by omega
    go_enter Try.func11, Try.ntmps11
    go_wp2_with fail
    refine (copy42 w ao cap xs H.out hn).mono ?_
    rintro e w1 ⟨rfl, hr1, hb1⟩
    have HR1 := Lib.hid hr1; have HB1 := Lib.hid hb1; clear hr1 hb1
    go_wp2_with fail
    refine (sum39_no w1 _ _ _ hgt).mono ?_
    rintro e w2 ⟨rfl, rfl⟩
    go_wp2_with fail
    refine (copy42 _ ao cap xs (H.out.below HB1.out) hn).mono ?_
    rintro e w3 ⟨rfl, hr3, hb3⟩
    have HR3 := Lib.hid hr3; have HB3 := Lib.hid hb3; clear hr3 hb3
    have HB4 := Lib.hid (HB1.out.trans (HB3.out.mono HB1.out.size))
    have HX := Lib.hid (frow_of H.out.wf HR3.out)
    go_wp2_with fail
    refine (sum38_no w3 _ _ _ hgt).mono ?_
    rintro e w4 ⟨rfl, rfl⟩
    go_wp2_with fail
    refine (same41 _ _).mono ?_
    rintro e w5 ⟨rfl, rfl⟩
    go_wp2_with fail
    refine (copy42 _ ao cap xs (H.out.below HB4.out) hn).mono ?_
    rintro e w6 ⟨rfl, hr6, hb6⟩
    have HR6 := Lib.hid hr6; have HB6 := Lib.hid hb6; clear hr6 hb6
    go_wp2_with fail
    refine (eq43 w6 _ _ _ _ xs (HX.out.below HB6.out) (frow_of H.out.wf HR6.out) hn).mono ?_
    rintro e w7 ⟨rfl, q7, rfl⟩
    go_wp2
    go_ret
    exact ⟨rfl, below_drewN (HB4.out.trans (HB6.out.mono HB4.out.size)) q7⟩

set_option maxHeartbeats 1000000 in
theorem walk_fnExactRangeOf (w : World) (ao : Option Addr) (cap : Nat) (xs : List Nat) (h : FRow w ao xs) :
    Calls Try.prog 12 #[.slice ao xs.length cap] w fun e w' => e = .returned (.bool true) ∧ Below w.heap.size w w' := by
  by_cases hbig : 1048576 < xs.length
  · go_enter Try.func12, Try.ntmps12
    go_wp2
    go_ret
    exact ⟨rfl, Below.refl _ _⟩
  have hn : xs.length ≤ 1048576 := by omega
  have H := Lib.hid h
  clear h
  by_cases h200 : xs.length ≤ 200
  all_goals
    go_enter Try.func12, Try.ntmps12
    go_wp2_with fail
    refine (copy42 w ao cap xs H.out hn).mono ?_
    rintro e w1 ⟨rfl, hr1, hb1⟩
    have HR1 := Lib.hid hr1; have HB1 := Lib.hid hb1; clear hr1 hb1
    go_wp2_with fail
    first | refine (range36 w1 _ _ xs (frow_of H.out.wf HR1.out) h200).mono ?_ | refine (range36_no w1 _ _ _ (by omega)).mono ?_
    rintro e w2 ⟨rfl, rfl⟩
    go_wp2_with fail
    refine (copy42 _ ao cap xs (H.out.below HB1.out) hn).mono ?_
    rintro e w3 ⟨rfl, hr3, hb3⟩
    have HR3 := Lib.hid hr3; have HB3 := Lib.hid hb3; clear hr3 hb3
    have HB4 := Lib.hid (HB1.out.trans (HB3.out.mono HB1.out.size))
    have HX := Lib.hid (frow_of H.out.wf HR3.out)
    go_wp2_with fail
    first | refine (range35 w3 _ _ xs HX.out h200).mono ?_ | refine (range35_no w3 _ _ _ (by omega)).mono ?_
    rintro e w4 ⟨rfl, rfl⟩
    go_wp2_with fail
    refine (same41 _ _).mono ?_
    rintro e w5 ⟨rfl, rfl⟩
    go_wp2_with fail
    refine (same41 _ _).mono ?_
    rintro e w5 ⟨rfl, rfl⟩
    go_wp2_with fail
    refine (copy42 _ ao cap xs (H.out.below HB4.out) hn).mono ?_
    rintro e w6 ⟨rfl, hr6, hb6⟩
    have HR6 := Lib.hid hr6; have HB6 := Lib.hid hb6; clear hr6 hb6
    go_wp2_with fail
    refine (eq43 w6 _ _ _ _ xs (HX.out.below HB6.out) (frow_of H.out.wf HR6.out) hn).mono ?_
    rintro e w7 ⟨rfl, q7, rfl⟩
    go_wp2
    go_ret
    exact ⟨rfl, below_drewN (HB4.out.trans (HB6.out.mono HB4.out.size)) q7⟩
end Go.Proofs.Ytkpfjjkblfjodaa
