/- The walk of the law FnExactMatcherText. -/
import Derived.Test.YtpbcgfgjdimpmaaDoorMtext
import Derived.Test.YtpbcgfgjdimpmaaDoorWk
namespace Go.Proofs.YtpbcgfgjdimpmaaDoor
open Go.RowKit Go.Deep

set_option maxHeartbeats 1000000 in
theorem walk_fnExactMatcherText (w : World) (k : Int) (n s : ByteArray) (hT : Tabs w) (hn : n.size ≤ maxLen) (hs : s.size ≤ maxLen) :
    Calls Tryd.prog 11 #[matV k n s] w fun e w' => e = .returned (.bool true) ∧ Below w.heap.size w w' := by
  have HT := Lib.hid hT
  clear hT
  have HB := Lib.hid ((Below.refl w.heap.size w).alloc (Nat.le_refl _) (.cells #[.int .i64 k, .string n, .string s] 72))
  go_enter Tryd.func11, Tryd.ntmps11
  go_wp2_with fail
  refine (sz59 k n s hn hs 1048576 (by omega) (by omega) _).mono ?_
  rintro e w1 ⟨r, rfl, r1, r2, r3, hb⟩
  have HB1 := Lib.hid (HB.out.trans (hb.mono HB.out.size))
  obtain ⟨k1, k2, k3⟩ := box3_cells hb
  have HV1 := Lib.hid hb
  have R3 := Lib.hid r3
  clear hb r3
  by_cases hneg : r < 0
  · go_wp2
    go_ret
    exact ⟨rfl, HB1.out⟩
  have hFit := R3.out (by omega)
  go_wp2_with fail
  refine (to61 k n s _).mono ?_
  rintro e w2 ⟨rfl, hb⟩
  have HB2 := Lib.hid (HB1.out.trans (hb.mono HB1.out.size))
  have HV2 := Lib.hid (HV1.out.trans (hb.mono HV1.out.size))
  clear hb
  go_wp2_with fail
  refine (mtext47 k n s hFit.1 hFit.2 _).mono ?_
  rintro e w3 ⟨rfl, hb⟩
  have HB3 := Lib.hid (HB2.out.trans (hb.mono HB2.out.size))
  have HV3 := Lib.hid (HV2.out.trans (hb.mono HV2.out.size))
  clear hb k1 k2 k3
  obtain ⟨k1, k2, k3⟩ := box3_cells HV3.out
  go_wp2_with fail
  refine (to61 k n s _).mono ?_
  rintro e w4 ⟨rfl, hb⟩
  have HB4 := Lib.hid (HB3.out.trans (hb.mono HB3.out.size))
  clear hb
  go_wp2_with fail
  refine (mtext46 k n s _ (HT.out.below' HB4.out)).mono ?_
  rintro e w5 ⟨rfl, hb⟩
  have HB5 := Lib.hid (HB4.out.trans (hb.mono HB4.out.size))
  clear hb
  generalize mtextF k n s = g
  generalize matB (k, n, s) = h
  have hgg : (g.toList != g.toList) = false := by simp
  have hhh : (h != h) = false := by cases h <;> rfl
  go_wp2
  go_ret
  exact ⟨rfl, HB5.out⟩
end Go.Proofs.YtpbcgfgjdimpmaaDoor
