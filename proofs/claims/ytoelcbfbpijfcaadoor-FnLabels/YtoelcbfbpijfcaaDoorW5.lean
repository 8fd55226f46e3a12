/- The walk of the law FnExactSortLabels: at every list of labels, in a world that holds the program's tables, its call returns true and writes nothing that was there. -/
import Derived.Test.YtoelcbfbpijfcaaDoorSpecs
import Derived.Test.YtoelcbfbpijfcaaDoorW11
namespace Go.Proofs.YtoelcbfbpijfcaaDoor
open Go.RowKit Go.Deep

theorem fit_sort {l R : List Lab} (h : Fit l) (hR : ResS l R) : Fit R := by
  by_cases hc : codeB l = 0
  · have hp := (hR.1 hc).1
    refine ⟨?_, fun x hx => h.2 x (List.mem_filter.1 (hp.subset hx)).1⟩
    rw [hp.length_eq]
    exact Nat.le_trans (List.length_filter_le _ _) h.1
  · rw [hR.2 hc]
    exact ⟨by simp, by simp⟩

set_option maxHeartbeats 4000000 in
set_option maxRecDepth 100000 in
theorem walk_fnExactSortLabels (w : World) (ao : Option Addr) (cap : Nat) (l : List Lab) (hT : Tabs w) (hF : Fine l) (h : LRow w w.heap.size ao l) :
    Calls Tryd.prog 7 #[.slice ao l.length cap] w fun e w' => e = .returned (.bool true) ∧ Below w.heap.size w w' := by
  have H := Lib.hid h
  clear h
  go_enter Tryd.func7, Tryd.ntmps7
  go_wp2_with fail
  refine (sz42 ao cap l hF 1048576 (by omega) (by omega) w H.out).mono ?_
  rintro e w1 ⟨r, rfl, r1, r2, r3, hb⟩
  have HB := Lib.hid hb
  have R3 := Lib.hid r3
  clear hb r3
  by_cases hneg : r < 0
  · go_wp2
    go_ret
    exact ⟨rfl, HB.out⟩
  have hFit := R3.out (by omega)
  have hl := hFit.1
  go_wp2_with fail
  refine (to43 ao cap l hFit w1 (H.out.after HB.out)).mono ?_
  intro e w2 hq
  obtain ⟨a2, c2, rfl, ho2, _, hb2⟩ := made_row hq
  replace HB := Lib.hid (HB.out.trans (hb2.mono HB.out.size))
  have HO2 := Lib.hid ho2
  clear hq ho2 hb2
  go_wp2_with fail
  refine (sort17 _ _ l hFit w2 HO2.out).mono ?_
  rintro e w3 ⟨v3, R, rfl, hR, ho3, hb3⟩
  obtain ⟨a3, c3, rfl⟩ := own_slice ho3
  have HR := Lib.hid hR
  have hFR := fit_sort hFit hR
  have hlr := hFR.1
  have z3 : w.heap.size ≤ w2.heap.size := HB.out.size
  replace HB := Lib.hid (HB.out.trans (hb3.mono HB.out.size))
  have HW := Lib.hid ho3
  clear hR ho3 hb3 HO2
  have HS16 := Lib.hid (fun base v w hT ho => sort16 base v l hl w hT ho)
  obtain ⟨cd, hcd⟩ : ∃ c, c = codeB l := ⟨_, rfl⟩
  obtain ⟨ok, hok⟩ : ∃ c, c = (codeB l == 0) := ⟨_, rfl⟩
  rw [← hok, ← hcd]
  have HCD := Lib.hid hcd
  have HOK := Lib.hid hok
  clear hcd hok
  go_wp2_with fail
  refine (to43 ao cap l hFit w3 (H.out.after HB.out)).mono ?_
  intro e w4 hq
  obtain ⟨a4, c4, rfl, ho4, _, hb4⟩ := made_row hq
  have z4 : w.heap.size ≤ w3.heap.size := HB.out.size
  have AWX := Lib.hid (own_apart HW.out ho4 (Nat.le_refl _))
  replace HB := Lib.hid (HB.out.trans (hb4.mono HB.out.size))
  replace HW := Lib.hid (own_below HW.out hb4)
  have HX := Lib.hid ho4
  clear hq ho4 hb4
  go_wp2_with fail
  refine (HS16.out _ _ w4 (hT.below' HB.out) HX.out).mono ?_
  rintro e w5 ⟨v5, R5, rfl, hR5, ho5, hb5⟩
  obtain rfl : R5 = R := hR5.unique HR.out
  obtain ⟨a5, c5, rfl⟩ := own_slice ho5
  rw [← HOK.out, ← HCD.out]
  have z5 : w.heap.size ≤ w4.heap.size := HB.out.size
  have AWG := Lib.hid (own_apart HW.out ho5 (Nat.le_refl _))
  have AXG := Lib.hid (own_apart HX.out ho5 (Nat.le_refl _))
  replace HB := Lib.hid (HB.out.trans (hb5.mono HB.out.size))
  replace HW := Lib.hid (own_below HW.out hb5)
  replace HX := Lib.hid (own_below HX.out hb5)
  have HG := Lib.hid ho5
  clear hR5 ho5 hb5
  have hgg : (ok != ok) = false := by cases ok <;> rfl
  have hcc : ((cd : Int) != (cd : Int)) = false := by simp
  go_wp2_with fail
  refine (eq44 a5 a3 c5 c3 R5 hFR w5 (LRow.of_own HG.out).2 (LRow.of_own HW.out).2).mono ?_
  rintro e w6 ⟨rfl, hb6⟩
  replace HB := Lib.hid (HB.out.trans (hb6.mono HB.out.size))
  replace HW := Lib.hid (own_below HW.out hb6)
  replace HX := Lib.hid (own_below HX.out hb6)
  replace HG := Lib.hid (own_below HG.out hb6)
  clear hb6
  go_wp2_with fail
  refine (to43 ao cap l hFit w6 (H.out.after HB.out)).mono ?_
  intro e w7 hq
  obtain ⟨a7, c7, rfl, _, hl7, hb7⟩ := made_row hq
  replace HB := Lib.hid (HB.out.trans (hb7.mono HB.out.size))
  replace HW := Lib.hid (own_below HW.out hb7)
  replace HX := Lib.hid (own_below HX.out hb7)
  replace HG := Lib.hid (own_below HG.out hb7)
  have HL7 := Lib.hid hl7
  clear hq hl7 hb7
  go_wp2_with fail
  refine (eq44 a4 a7 c4 c7 l hFit w7 (LRow.of_own HX.out).2 HL7.out).mono ?_
  rintro e w8 ⟨rfl, hb8⟩
  replace HB := Lib.hid (HB.out.trans (hb8.mono HB.out.size))
  replace HW := Lib.hid (own_below HW.out hb8)
  replace HX := Lib.hid (own_below HX.out hb8)
  replace HG := Lib.hid (own_below HG.out hb8)
  clear hb8 HL7
  go_wp2_with fail
  refine (mark45 _ l.length 1 _ _ hl (by omega) w8 HX.out).mono ?_
  rintro e w9 ⟨rfl, ho9, hg9⟩
  replace HB := Lib.hid (below_marked HB.out HX.out hg9 z4)
  replace HW := Lib.hid (HW.out.kept hg9 AWX.out.1)
  replace HG := Lib.hid (HG.out.kept hg9 AXG.out.2)
  clear ho9 hg9 HX
  go_wp2_with fail
  refine (eq44 a5 a3 c5 c3 R5 hFR w9 (LRow.of_own HG.out).2 (LRow.of_own HW.out).2).mono ?_
  rintro e w10 ⟨rfl, hb10⟩
  replace HB := Lib.hid (HB.out.trans (hb10.mono HB.out.size))
  replace HW := Lib.hid (own_below HW.out hb10)
  replace HG := Lib.hid (own_below HG.out hb10)
  clear hb10
  go_wp2_with fail
  refine (mark45 _ R5.length 1 _ _ hlr (by omega) w10 HG.out).mono ?_
  rintro e w11 ⟨rfl, ho11, hg11⟩
  replace HB := Lib.hid (below_marked HB.out HG.out hg11 z5)
  replace HW := Lib.hid (HW.out.kept hg11 AWG.out.1)
  have HM := Lib.hid ho11
  clear ho11 hg11 HG
  go_wp2_with fail
  refine (held46 R5.length 1 a5 c5 hlr (by omega) w11 (LRow.of_own HM.out).2).mono ?_
  rintro e w12 ⟨rfl, hb12⟩
  replace HB := Lib.hid (HB.out.trans (hb12.mono HB.out.size))
  replace HW := Lib.hid (own_below HW.out hb12)
  replace HM := Lib.hid (own_below HM.out hb12)
  clear hb12
  go_wp2_with fail
  refine (to43 ao cap l hFit w12 (H.out.after HB.out)).mono ?_
  intro e w13 hq
  obtain ⟨a13, c13, rfl, ho13, _, hb13⟩ := made_row hq
  replace HB := Lib.hid (HB.out.trans (hb13.mono HB.out.size))
  replace HW := Lib.hid (own_below HW.out hb13)
  replace HM := Lib.hid (own_below HM.out hb13)
  have HO13 := Lib.hid ho13
  clear hq ho13 hb13
  go_wp2_with fail
  refine (HS16.out _ _ w13 (hT.below' HB.out) HO13.out).mono ?_
  rintro e w14 ⟨v14, R14, rfl, hR14, ho14, hb14⟩
  obtain rfl : R14 = R5 := hR14.unique HR.out
  obtain ⟨a14, c14, rfl⟩ := own_slice ho14
  rw [← HOK.out, ← HCD.out]
  replace HB := Lib.hid (HB.out.trans (hb14.mono HB.out.size))
  replace HW := Lib.hid (own_below HW.out hb14)
  replace HM := Lib.hid (own_below HM.out hb14)
  have HL14 := Lib.hid (LRow.of_own ho14).2
  clear hR14 ho14 hb14 HO13
  go_wp2_with fail
  refine (eq44 a14 a3 c14 c3 R14 hFR w14 HL14.out (LRow.of_own HW.out).2).mono ?_
  rintro e w15 ⟨rfl, hb15⟩
  replace HB := Lib.hid (HB.out.trans (hb15.mono HB.out.size))
  replace HM := Lib.hid (own_below HM.out hb15)
  clear hb15 HL14 HW
  go_wp2_with fail
  refine (held46 R14.length 1 a5 c5 hlr (by omega) w15 (LRow.of_own HM.out).2).mono ?_
  rintro e w16 ⟨rfl, hb16⟩
  replace HB := Lib.hid (HB.out.trans (hb16.mono HB.out.size))
  clear hb16
  go_wp2
  go_ret
  exact ⟨rfl, HB.out⟩
end Go.Proofs.YtoelcbfbpijfcaaDoor
