/- The walk of the law FnExactCompareLabels: at every two lists of labels, in a world that holds the program's tables, its call returns true and writes nothing that was there. -/
import Derived.Test.YtoelcbfbpijfcaaDoorCmpm
import Derived.Test.YtoelcbfbpijfcaaDoorW4
namespace Go.Proofs.YtoelcbfbpijfcaaDoor
open Go.RowKit Go.Deep

set_option maxHeartbeats 4000000 in
set_option maxRecDepth 100000 in
theorem walk_fnExactCompareLabels (w : World) (ao : Option Addr) (cap : Nat) (l : List Lab) (bo : Option Addr) (cap2 : Nat) (m : List Lab) (hT : Tabs w) (hF : Fine l) (h : LRow w w.heap.size ao l) (hF2 : Fine m) (h2 : LRow w w.heap.size bo m) :
    Calls Tryd.prog 8 #[.slice ao l.length cap, .slice bo m.length cap2] w fun e w' => e = .returned (.bool true) ∧ Below w.heap.size w w' := by
  have H := Lib.hid h
  have H2 := Lib.hid h2
  clear h h2
  go_enter Tryd.func8, Tryd.ntmps8
  go_wp2_with fail
  refine (sz42 ao cap l hF 1048576 (by omega) (by omega) w H.out).mono ?_
  rintro e w1 ⟨r, rfl, r1, r2, r3, hb⟩
  have HB := Lib.hid hb
  have R3 := Lib.hid r3
  clear hb r3
  by_cases hneg : r < 0
  · go_wp2
    go_ret
    exact ⟨rfl, HB.out⟩
  have hFit := R3.out (by omega)
  go_wp2_with fail
  refine (sz42 bo cap2 m hF2 r (by omega) (by omega) w1 (H2.out.after HB.out)).mono ?_
  rintro e w2 ⟨s, rfl, s1, s2, s3, hb⟩
  replace HB := Lib.hid (HB.out.trans (hb.mono HB.out.size))
  have S3 := Lib.hid s3
  clear hb s3
  by_cases hneg2 : s < 0
  · go_wp2
    go_ret
    exact ⟨rfl, HB.out⟩
  have hFit2 := S3.out (by omega)
  have hl := hFit.1
  have hm := hFit2.1
  go_wp2_with fail
  refine (to43 ao cap l hFit w2 (H.out.after HB.out)).mono ?_
  intro e w3 hq
  obtain ⟨a3, c3, rfl, _, hl3, hb3⟩ := made_row hq
  replace HB := Lib.hid (HB.out.trans (hb3.mono HB.out.size))
  have HL3 := Lib.hid hl3
  clear hq hl3 hb3
  go_wp2_with fail
  refine (to43 bo cap2 m hFit2 w3 (H2.out.after HB.out)).mono ?_
  intro e w4 hq
  obtain ⟨a4, c4, rfl, _, hl4, hb4⟩ := made_row hq
  replace HB := Lib.hid (HB.out.trans (hb4.mono HB.out.size))
  replace HL3 := Lib.hid (HL3.out.after hb4)
  have HL4 := Lib.hid hl4
  clear hq hl4 hb4
  go_wp2_with fail
  refine (comp23 a3 a4 c3 c4 l m hFit hFit2 w4 HL3.out HL4.out).mono ?_
  rintro e w5 ⟨rfl, hb5⟩
  replace HB := Lib.hid (HB.out.trans (hb5.mono HB.out.size))
  clear hb5 HL3 HL4
  go_wp2_with fail
  refine (to43 ao cap l hFit w5 (H.out.after HB.out)).mono ?_
  intro e w6 hq
  obtain ⟨a6, c6, rfl, _, hl6, hb6⟩ := made_row hq
  replace HB := Lib.hid (HB.out.trans (hb6.mono HB.out.size))
  have HL6 := Lib.hid hl6
  clear hq hl6 hb6
  go_wp2_with fail
  refine (to43 bo cap2 m hFit2 w6 (H2.out.after HB.out)).mono ?_
  intro e w7 hq
  obtain ⟨a7, c7, rfl, _, hl7, hb7⟩ := made_row hq
  replace HB := Lib.hid (HB.out.trans (hb7.mono HB.out.size))
  replace HL6 := Lib.hid (HL6.out.after hb7)
  have HL7 := Lib.hid hl7
  clear hq hl7 hb7
  go_wp2_with fail
  refine (comp22 a6 a7 c6 c7 l m hl hm w7 (hT.below' HB.out) HL6.out HL7.out).mono ?_
  rintro e w8 ⟨rfl, hb8⟩
  replace HB := Lib.hid (HB.out.trans (hb8.mono HB.out.size))
  replace HL6 := Lib.hid (HL6.out.after hb8)
  replace HL7 := Lib.hid (HL7.out.after hb8)
  clear hb8 
  generalize resC l m = rc
  generalize okC l m = ok
  have hgg : (ok != ok) = false := by cases ok <;> rfl
  have hrr : (rc != rc) = false := by simp
  go_wp2_with fail
  refine (to43 ao cap l hFit w8 (H.out.after HB.out)).mono ?_
  intro e w9 hq
  obtain ⟨a9, c9, rfl, _, hl9, hb9⟩ := made_row hq
  replace HB := Lib.hid (HB.out.trans (hb9.mono HB.out.size))
  replace HL6 := Lib.hid (HL6.out.after hb9)
  replace HL7 := Lib.hid (HL7.out.after hb9)
  have HL9 := Lib.hid hl9
  clear hq hl9 hb9
  go_wp2_with fail
  refine (eq44 a6 a9 c6 c9 l hFit w9 HL6.out HL9.out).mono ?_
  rintro e w10 ⟨rfl, hb10⟩
  replace HB := Lib.hid (HB.out.trans (hb10.mono HB.out.size))
  replace HL7 := Lib.hid (HL7.out.after hb10)
  clear hb10 HL9
  go_wp2_with fail
  refine (to43 bo cap2 m hFit2 w10 (H2.out.after HB.out)).mono ?_
  intro e w11 hq
  obtain ⟨a11, c11, rfl, _, hl11, hb11⟩ := made_row hq
  replace HB := Lib.hid (HB.out.trans (hb11.mono HB.out.size))
  replace HL7 := Lib.hid (HL7.out.after hb11)
  have HL11 := Lib.hid hl11
  clear hq hl11 hb11
  go_wp2_with fail
  refine (eq44 a7 a11 c7 c11 m hFit2 w11 HL7.out HL11.out).mono ?_
  rintro e w12 ⟨rfl, hb12⟩
  replace HB := Lib.hid (HB.out.trans (hb12.mono HB.out.size))
  clear hb12 
  go_wp2
  go_ret
  exact ⟨rfl, HB.out⟩
end Go.Proofs.YtoelcbfbpijfcaaDoor
