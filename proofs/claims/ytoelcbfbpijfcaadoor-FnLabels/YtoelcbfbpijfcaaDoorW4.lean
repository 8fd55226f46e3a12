/- The walks of the laws FnExactGoodLabels and FnExactIsFor: at every list of labels, in a world that holds the program's tables, each law's call returns true and writes nothing that was there. -/
import Derived.Test.YtoelcbfbpijfcaaDoorIs
namespace Go.Proofs.YtoelcbfbpijfcaaDoor
open Go.RowKit Go.Deep

theorem own_slice {w : World} {base : Nat} {e : TypeId} {size n : Nat} {v : Value} {xs : List Value} (h : w.ownsRow base e size v n xs) : ∃ ao c, v = .slice ao n c := by
  rcases h.2 with ⟨rfl, rfl⟩ | ⟨g, cap, cur, rfl, _⟩
  · exact ⟨_, _, rfl⟩
  · exact ⟨_, _, rfl⟩

/-- A copy is a slice that holds the labels. -/
theorem made_row {w w' : World} {base : Nat} {l : List Lab} {e : Ending} (h : Made base l w e w') : ∃ ao c, e = .returned (.slice ao l.length c) ∧ w'.ownsRow base 31 2 (.slice ao l.length c) l.length (cellsOf l) ∧ LRow w' w'.heap.size ao l ∧ Below w.heap.size w w' := by
  obtain ⟨v, rfl, ho, hb⟩ := h
  obtain ⟨ao, c, rfl⟩ := own_slice ho
  exact ⟨ao, c, rfl, ho, (LRow.of_own ho).2, hb⟩

theorem good28 (ao : Option Addr) (cap : Nat) (l : List Lab) (hF : Fit l) (w : World) (h : LRow w w.heap.size ao l) :
    Calls Tryd.prog 28 #[.slice ao l.length cap] w fun e w' => e = .returned (.bool (goodB l)) ∧ Below w.heap.size w w' := by
  have H := Lib.hid h
  clear h
  go_enter Tryd.func28, Tryd.ntmps28
  go_wp2_with fail
  refine (good68 ao cap l hF _ H.out).mono ?_
  rintro e w1 ⟨rfl, hb⟩
  have HB := Lib.hid hb
  clear hb
  go_wp2
  go_ret
  exact ⟨rfl, HB.out⟩

set_option maxHeartbeats 1000000 in
theorem walk_fnExactGoodLabels (w : World) (ao : Option Addr) (cap : Nat) (l : List Lab) (hT : Tabs w) (hF : Fine l) (h : LRow w w.heap.size ao l) :
    Calls Tryd.prog 6 #[.slice ao l.length cap] w fun e w' => e = .returned (.bool true) ∧ Below w.heap.size w w' := by
  have H := Lib.hid h
  clear h
  go_enter Tryd.func6, Tryd.ntmps6
  go_wp2_with fail
  refine (sz42 ao cap l hF 1048576 (by omega) (by omega) w H.out).mono ?_
  rintro e w1 ⟨r, rfl, r1, r2, r3, hb⟩
  have HB := Lib.hid hb
  have R3 := Lib.hid r3
  clear hb r3
  by_cases hneg : r < 0
  · go_wp2
    go_ret
    exact ⟨rfl, HB.out⟩
  have hFit := R3.out (by omega)
  go_wp2_with fail
  refine (to43 ao cap l hFit w1 (H.out.after HB.out)).mono ?_
  intro e w2 hm
  obtain ⟨ao2, c2, rfl, _, hl2, hb2⟩ := made_row hm
  have HL2 := Lib.hid hl2
  have HB2 := Lib.hid (HB.out.trans (hb2.mono HB.out.size))
  clear hm hl2 hb2
  go_wp2_with fail
  refine (good28 ao2 c2 l hFit w2 HL2.out).mono ?_
  rintro e w3 ⟨rfl, hb3⟩
  have HB3 := Lib.hid (HB2.out.trans (hb3.mono HB2.out.size))
  clear hb3
  go_wp2_with fail
  refine (to43 ao cap l hFit w3 (H.out.after HB3.out)).mono ?_
  intro e w4 hm
  obtain ⟨ao4, c4, rfl, _, hl4, hb4⟩ := made_row hm
  have HL4 := Lib.hid hl4
  have HB4 := Lib.hid (HB3.out.trans (hb4.mono HB3.out.size))
  clear hm hl4 hb4
  go_wp2_with fail
  refine (good19 ao4 c4 l hFit.1 w4 (hT.below' HB4.out) HL4.out).mono ?_
  rintro e w5 ⟨rfl, hb5⟩
  have HL5 := Lib.hid (HL4.out.after hb5)
  have HB5 := Lib.hid (HB4.out.trans (hb5.mono HB4.out.size))
  clear hb5
  generalize goodB l = g
  have hgg : (g != g) = false := by cases g <;> rfl
  go_wp2_with fail
  refine (to43 ao cap l hFit w5 (H.out.after HB5.out)).mono ?_
  intro e w6 hm
  obtain ⟨ao6, c6, rfl, _, hl6, hb6⟩ := made_row hm
  have HL6 := Lib.hid hl6
  have HL56 := Lib.hid (HL5.out.after hb6)
  have HB6 := Lib.hid (HB5.out.trans (hb6.mono HB5.out.size))
  clear hm hl6 hb6
  go_wp2_with fail
  refine (eq44 ao4 ao6 c4 c6 l hFit w6 HL56.out HL6.out).mono ?_
  rintro e w7 ⟨rfl, hb7⟩
  have HB7 := Lib.hid (HB6.out.trans (hb7.mono HB6.out.size))
  clear hb7
  go_wp2
  go_ret
  exact ⟨rfl, HB7.out⟩

set_option maxHeartbeats 1000000 in
theorem walk_fnExactIsFor (w : World) (ao : Option Addr) (cap : Nat) (l : List Lab) (n : ByteArray) (hT : Tabs w) (hF : Fine l) (h : LRow w w.heap.size ao l) (hs : n.size ≤ maxLen) :
    Calls Tryd.prog 12 #[.slice ao l.length cap, .string n] w fun e w' => e = .returned (.bool true) ∧ Below w.heap.size w w' := by
  have H := Lib.hid h
  clear h
  unfold maxLen at hs
  by_cases hbig : 1048576 < n.size
  · go_enter Tryd.func12, Tryd.ntmps12
    go_wp2
    go_ret
    exact ⟨rfl, Below.refl _ _⟩
  go_enter Tryd.func12, Tryd.ntmps12
  go_wp2_with fail
  refine (sz42 ao cap l hF 1048576 (by omega) (by omega) w H.out).mono ?_
  rintro e w1 ⟨r, rfl, r1, r2, r3, hb⟩
  have HB := Lib.hid hb
  have R3 := Lib.hid r3
  clear hb r3
  by_cases hneg : r < 0
  · go_wp2
    go_ret
    exact ⟨rfl, HB.out⟩
  have hFit := R3.out (by omega)
  go_wp2_with fail
  refine (to43 ao cap l hFit w1 (H.out.after HB.out)).mono ?_
  intro e w2 hm
  obtain ⟨ao2, c2, rfl, _, hl2, hb2⟩ := made_row hm
  have HL2 := Lib.hid hl2
  have HB2 := Lib.hid (HB.out.trans (hb2.mono HB.out.size))
  clear hm hl2 hb2
  go_wp2_with fail
  refine (is38 ao2 c2 l hFit n w2 HL2.out).mono ?_
  rintro e w3 ⟨rfl, hb3⟩
  have HB3 := Lib.hid (HB2.out.trans (hb3.mono HB2.out.size))
  clear hb3
  go_wp2_with fail
  refine (to43 ao cap l hFit w3 (H.out.after HB3.out)).mono ?_
  intro e w4 hm
  obtain ⟨ao4, c4, rfl, _, hl4, hb4⟩ := made_row hm
  have HL4 := Lib.hid hl4
  have HB4 := Lib.hid (HB3.out.trans (hb4.mono HB3.out.size))
  clear hm hl4 hb4
  go_wp2_with fail
  refine (is20 ao4 c4 l hFit.1 n w4 (hT.below' HB4.out) HL4.out).mono ?_
  rintro e w5 ⟨rfl, hb5⟩
  have HL5 := Lib.hid (HL4.out.after hb5)
  have HB5 := Lib.hid (HB4.out.trans (hb5.mono HB4.out.size))
  clear hb5
  generalize goodB l = g
  generalize isF l n = s
  have hgg : (g != g) = false := by cases g <;> rfl
  have hss : (s.toList != s.toList) = false := by simp
  go_wp2_with fail
  refine (to43 ao cap l hFit w5 (H.out.after HB5.out)).mono ?_
  intro e w6 hm
  obtain ⟨ao6, c6, rfl, _, hl6, hb6⟩ := made_row hm
  have HL6 := Lib.hid hl6
  have HL56 := Lib.hid (HL5.out.after hb6)
  have HB6 := Lib.hid (HB5.out.trans (hb6.mono HB5.out.size))
  clear hm hl6 hb6
  go_wp2_with fail
  refine (eq44 ao4 ao6 c4 c6 l hFit w6 HL56.out HL6.out).mono ?_
  rintro e w7 ⟨rfl, hb7⟩
  have HB7 := Lib.hid (HB6.out.trans (hb7.mono HB6.out.size))
  clear hb7
  go_wp2
  go_ret
  exact ⟨rfl, HB7.out⟩
end Go.Proofs.YtoelcbfbpijfcaaDoor
