/- The walks of the laws FnExactGoodMatchers, FnExactMatches and FnExactMatchesAll, and how a list of matchers that came in is read. -/
import Derived.Test.YtpbcgfgjdimpmaaDoorMatchx
import Derived.Test.YtpbcgfgjdimpmaaDoorArgm
namespace Go.Proofs.YtpbcgfgjdimpmaaDoor
open Go.ChangeShapes Go.WideShapes Go.ChangeAt Go.RowKit Go.ChangeMaps Go.Deep

section
variable {H : Type} {enc : TypeId × Value → H} {w : World} {base : Nat} {spare : Nat → Bool} {held : Bool}
set_option maxRecDepth 100000 in
theorem open_matchers {v : Value} {d : DataW H} {ps : List MemPlace} (hv : ∃ a l c, v = .slice a l c) (h : DataW.Trod enc Tryd.prog w base spare held 65 v d ps) : ∃ ao cap l, v = .slice ao l.length cap ∧ FineM l ∧ MRow w w.heap.size ao l := by
  obtain ⟨a, l, c, rfl⟩ := hv
  obtain ⟨fuel, hf⟩ := h
  rcases open_slice Tryd.underlying65 hf with ⟨hcs, _⟩ | ⟨a', len, cap, m, n, D, Pl, hcs, _, hl, hcm, hm, _, hx⟩
  · simp [Value.cells] at hcs
    obtain ⟨rfl, rfl, rfl⟩ := hcs
    exact ⟨none, 0, [], rfl, ⟨by simp, by simp⟩, MRow.nil _ _ _⟩
  · simp [Value.cells] at hcs
    obtain ⟨rfl, rfl, rfl⟩ := hcs
    have hlm : l ≤ m := by rw [hm]; split <;> omega
    obtain ⟨B, hB⟩ := choose_lt (α := Mat) (n := l) (p := fun i x => w.cell? (a'.add (i * 3)) = some (.int .i64 x.1) ∧ w.cell? (a'.add (i * 3 + 1)) = some (.string x.2.1) ∧ w.cell? (a'.add (i * 3 + 2)) = some (.string x.2.2) ∧ x.2.1.size ≤ maxLen ∧ x.2.2.size ≤ maxLen) (fun i hi => by
      obtain ⟨cs', hc, ht⟩ := hx i (by omega)
      rw [cells72] at hc
      obtain ⟨k, x, y, rfl, s0, s1⟩ := three_cells ht
      obtain ⟨_, _, hat⟩ := World.cells?_some hc
      have e0 := hat 0 (by omega)
      have e1 := hat 1 (by omega)
      have e2 := hat 2 (by omega)
      rw [Go.Deep.add_add] at e0 e1 e2
      exact ⟨(k, x, y), by simpa using e0, by simpa using e1, by simpa using e2, s0, s1⟩)
    have hk : ∀ (k : Nat) (h : k < ((List.range l).map B).length), ((List.range l).map B)[k] = B k := by intro k h; simp
    refine ⟨some a', c, (List.range l).map B, by simp, ⟨by simp; omega, ?_⟩, ?_⟩
    · intro x hx
      simp at hx
      obtain ⟨i, hi, rfl⟩ := hx
      exact (hB i hi).2.2.2
    · intro hp
      simp at hp
      obtain ⟨b, off, spot⟩ := a'
      have h0 := (hB 0 hp).1
      have hs : spot = none := by simpa [Addr.add] using World.cell?_spot h0
      subst hs
      refine ⟨b, off, rfl, ?_, ?_⟩
      · have : w.cell? ⟨b, off, none⟩ = some (.int .i64 (B 0).1) := by simpa [Addr.add] using h0
        exact World.block_lt_of_cell? w _ this
      · intro i hi
        rw [hk i hi]
        simp at hi
        have h1 := (hB i hi).1
        have h2 := (hB i hi).2.1
        have h3 := (hB i hi).2.2.1
        rw [add_plain] at h1 h2 h3
        exact ⟨h1, by rw [Nat.add_assoc]; exact h2, by rw [Nat.add_assoc]; exact h3⟩
end

set_option maxHeartbeats 1000000 in
theorem walk_fnExactGoodMatchers (w : World) (ao : Option Addr) (cap : Nat) (l : List Mat) (hT : Tabs w) (hF : FineM l) (h : MRow w w.heap.size ao l) :
    Calls Tryd.prog 7 #[.slice ao l.length cap] w fun e w' => e = .returned (.bool true) ∧ Below w.heap.size w w' := by
  have H := Lib.hid h
  clear h
  go_enter Tryd.func7, Tryd.ntmps7
  go_wp2_with fail
  refine (sz55 ao cap l hF 1048576 (by omega) (by omega) w H.out).mono ?_
  rintro e w1 ⟨r, rfl, r1, r2, r3, hb⟩
  have HB := Lib.hid hb
  have R3 := Lib.hid r3
  clear hb r3
  by_cases hneg : r < 0
  · go_wp2
    go_ret
    exact ⟨rfl, HB.out⟩
  have hFit := R3.out (by omega)
  go_wp2_with fail
  refine (to56 ao cap l hFit w1 (H.out.after HB.out)).mono ?_
  intro e w2 hm
  obtain ⟨ao2, c2, rfl, hl2, hb2⟩ := madeM_row hm
  have HL2 := Lib.hid hl2
  have HB2 := Lib.hid (HB.out.trans (hb2.mono HB.out.size))
  clear hm hl2 hb2
  go_wp2_with fail
  refine (good39 ao2 c2 l hFit w2 HL2.out).mono ?_
  rintro e w3 ⟨rfl, hb3⟩
  have HB3 := Lib.hid (HB2.out.trans (hb3.mono HB2.out.size))
  clear hb3
  go_wp2_with fail
  refine (to56 ao cap l hFit w3 (H.out.after HB3.out)).mono ?_
  intro e w4 hm
  obtain ⟨ao4, c4, rfl, hl4, hb4⟩ := madeM_row hm
  have HL4 := Lib.hid hl4
  have HB4 := Lib.hid (HB3.out.trans (hb4.mono HB3.out.size))
  clear hm hl4 hb4
  go_wp2_with fail
  refine (good38 ao4 c4 l hFit.1 w4 (hT.below' HB4.out) HL4.out).mono ?_
  rintro e w5 ⟨rfl, hb5⟩
  have HL5 := Lib.hid (HL4.out.after hb5)
  have HB5 := Lib.hid (HB4.out.trans (hb5.mono HB4.out.size))
  clear hb5
  generalize goodMs l = g
  have hgg : (g != g) = false := by cases g <;> rfl
  go_wp2_with fail
  refine (to56 ao cap l hFit w5 (H.out.after HB5.out)).mono ?_
  intro e w6 hm
  obtain ⟨ao6, c6, rfl, hl6, hb6⟩ := madeM_row hm
  have HL6 := Lib.hid hl6
  have HL56 := Lib.hid (HL5.out.after hb6)
  have HB6 := Lib.hid (HB5.out.trans (hb6.mono HB5.out.size))
  clear hm hl6 hb6
  go_wp2_with fail
  refine (eq57 ao4 ao6 c4 c6 l hFit w6 HL56.out HL6.out).mono ?_
  rintro e w7 ⟨rfl, hb7⟩
  have HB7 := Lib.hid (HB6.out.trans (hb7.mono HB6.out.size))
  clear hb7
  go_wp2
  go_ret
  exact ⟨rfl, HB7.out⟩

set_option maxHeartbeats 4000000 in
set_option maxRecDepth 100000 in
theorem walk_fnExactMatches (w : World) (ao : Option Addr) (cap : Nat) (l : List Lab) (k : Int) (n s : ByteArray) (hT : Tabs w ∧ MaxC w) (hF : Fine l) (h : LRow w w.heap.size ao l) (hn : n.size ≤ maxLen) (hs : s.size ≤ maxLen) :
    Calls Tryd.prog 9 #[.slice ao l.length cap, matV k n s] w fun e w' => e = .returned (.bool true) ∧ Below w.heap.size w w' := by
  have H := Lib.hid h
  have HT := Lib.hid hT
  clear h hT
  have HB0 := Lib.hid ((Below.refl w.heap.size w).alloc (Nat.le_refl _) (.cells #[.int .i64 k, .string n, .string s] 72))
  go_enter Tryd.func9, Tryd.ntmps9
  go_wp2_with fail
  refine (sz42 ao cap l hF 1048576 (by omega) (by omega) _ (H.out.after HB0.out)).mono ?_
  rintro e w1 ⟨r, rfl, r1, r2, r3, hb⟩
  have HB := Lib.hid (HB0.out.trans (hb.mono HB0.out.size))
  have HV1 := Lib.hid hb
  obtain ⟨k1, k2, k3⟩ := box3_cells hb
  have R3 := Lib.hid r3
  clear hb r3
  by_cases hneg : r < 0
  · go_wp2
    go_ret
    exact ⟨rfl, HB.out⟩
  have hFit := R3.out (by omega)
  go_wp2_with fail
  refine (sz59 k n s hn hs r (by omega) (by omega) _).mono ?_
  rintro e w2 ⟨r', rfl, r1', r2', r3', hb⟩
  have HB2 := Lib.hid (HB.out.trans (hb.mono HB.out.size))
  have HV2 := Lib.hid (HV1.out.trans (hb.mono HV1.out.size))
  have R3' := Lib.hid r3'
  clear hb r3' k1 k2 k3
  obtain ⟨k1, k2, k3⟩ := box3_cells HV2.out
  by_cases hneg' : r' < 0
  · go_wp2
    go_ret
    exact ⟨rfl, HB2.out⟩
  have hFit2 := R3'.out (by omega)
  have hlt : w.heap.size < w2.heap.size := by have := HV2.out.size; simp at this; omega
  have HL2 := Lib.hid (H.out.after HB2.out)
  go_wp2_with fail
  go_region_held3 (fun w' => w'.cell? ⟨w.heap.size, 0, none⟩ = some (.int .i64 k) ∧ w'.cell? ⟨w.heap.size, 1, none⟩ = some (.string n) ∧ w'.cell? ⟨w.heap.size, 2, none⟩ = some (.string s)) (exact ⟨by assumption, by assumption, by assumption⟩) (first | (go_at_call 60; refine (to43 ao cap l hFit _ (HL2.out.drewN 1)).mono ?_; intro e w3 hm; obtain ⟨ao3, c3, rfl, _, hl3, hb3⟩ := made_row hm; have k1' := (hb3.cell (p := ⟨w.heap.size, 0, none⟩) hlt).trans k1; have k2' := (hb3.cell (p := ⟨w.heap.size, 1, none⟩) hlt).trans k2; have k3' := (hb3.cell (p := ⟨w.heap.size, 2, none⟩) hlt).trans k3; have hlt3 : w.heap.size < w3.heap.size := Nat.lt_of_lt_of_le hlt hb3.size; have HL3 := Lib.hid hl3; have HB3 := Lib.hid ((below_drewN HB2.out 1).trans (hb3.mono HB2.out.size)); clear hm hl3 hb3) | (go_at_call 61; refine (to61 k n s _).mono ?_; rintro e w4 ⟨rfl, hb4⟩; have k1'' := (hb4.cell (p := ⟨w.heap.size, 0, none⟩) hlt3).trans k1'; have k2'' := (hb4.cell (p := ⟨w.heap.size, 1, none⟩) hlt3).trans k2'; have k3'' := (hb4.cell (p := ⟨w.heap.size, 2, none⟩) hlt3).trans k3'; have hlt4 : w.heap.size < w4.heap.size := Nat.lt_of_lt_of_le hlt3 hb4.size; have HL4 := Lib.hid (HL3.out.after hb4); have HB4 := Lib.hid (HB3.out.trans (hb4.mono HB3.out.size)); clear hb4) | (go_at_call 33; refine (matches33 ao3 c3 l hFit k n s hFit2.1 hFit2.2 _ HL4.out).mono ?_; rintro e w5 ⟨rfl, hb5⟩; have j1 := (hb5.cell (p := ⟨w.heap.size, 0, none⟩) hlt4).trans k1''; have j2 := (hb5.cell (p := ⟨w.heap.size, 1, none⟩) hlt4).trans k2''; have j3 := (hb5.cell (p := ⟨w.heap.size, 2, none⟩) hlt4).trans k3''; have hlt5 : w.heap.size < w5.heap.size := Nat.lt_of_lt_of_le hlt4 hb5.size; have HB5 := Lib.hid (HB4.out.trans (hb5.mono HB4.out.size)); clear hb5))
  clear k1 k2 k3 k1' k2' k3' k1'' k2'' k3''
  go_wp2_with fail
  refine (to43 ao cap l hFit _ (H.out.after HB5.out)).mono ?_
  intro e w6 hm
  obtain ⟨ao6, c6, rfl, _, hl6, hb6⟩ := made_row hm
  have HL6 := Lib.hid hl6
  have HB6 := Lib.hid (HB5.out.trans (hb6.mono HB5.out.size))
  have m1 := (hb6.cell (p := ⟨w.heap.size, 0, none⟩) hlt5).trans j1
  have m2 := (hb6.cell (p := ⟨w.heap.size, 1, none⟩) hlt5).trans j2
  have m3 := (hb6.cell (p := ⟨w.heap.size, 2, none⟩) hlt5).trans j3
  clear hm hl6 hb6 j1 j2 j3
  go_wp2_with fail
  refine (to61 k n s _).mono ?_
  rintro e w7 ⟨rfl, hb⟩
  have HB7 := Lib.hid (HB6.out.trans (hb.mono HB6.out.size))
  have HL7 := Lib.hid (HL6.out.after hb)
  clear hb
  go_wp2_with fail
  refine (matches32 ao6 c6 l hFit k n s hFit2.2 _ (HT.out.1.below' HB7.out) (HT.out.2.below' HB7.out) HL7.out).mono ?_
  rintro e w8 ⟨rfl, hb⟩
  have HB8 := Lib.hid (HB7.out.trans (hb.mono HB7.out.size))
  have HL8 := Lib.hid (HL7.out.after hb)
  clear hb
  generalize matchV l k n s = g
  generalize matchB l k n s = q
  have hgg : (g != g) = false := by cases g <;> rfl
  have hqq : (q != q) = false := by cases q <;> rfl
  go_wp2_with fail
  refine (to43 ao cap l hFit _ (H.out.after HB8.out)).mono ?_
  intro e w9 hm
  obtain ⟨ao9, c9, rfl, _, hl9, hb9⟩ := made_row hm
  have HL9 := Lib.hid hl9
  have HL89 := Lib.hid (HL8.out.after hb9)
  have HB9 := Lib.hid (HB8.out.trans (hb9.mono HB8.out.size))
  clear hm hl9 hb9
  go_wp2_with fail
  refine (eq44 ao6 ao9 c6 c9 l hFit _ HL89.out HL9.out).mono ?_
  rintro e w10 ⟨rfl, hb⟩
  have HB10 := Lib.hid (HB9.out.trans (hb.mono HB9.out.size))
  clear hb
  go_wp2
  go_ret
  exact ⟨rfl, HB10.out⟩

set_option maxHeartbeats 4000000 in
set_option maxRecDepth 100000 in
theorem walk_fnExactMatchesAll (w : World) (ao : Option Addr) (cap : Nat) (l : List Lab) (bo : Option Addr) (dap : Nat) (ms : List Mat) (hT : Tabs w ∧ MaxC w) (hF : Fine l) (h : LRow w w.heap.size ao l) (hFM : FineM ms) (hm : MRow w w.heap.size bo ms) :
    Calls Tryd.prog 10 #[.slice ao l.length cap, .slice bo ms.length dap] w fun e w' => e = .returned (.bool true) ∧ Below w.heap.size w w' := by
  have H := Lib.hid h
  have HM := Lib.hid hm
  have HT := Lib.hid hT
  clear h hT hm
  go_enter Tryd.func10, Tryd.ntmps10
  go_wp2_with fail
  refine (sz42 ao cap l hF 1048576 (by omega) (by omega) _ H.out).mono ?_
  rintro e w1 ⟨r, rfl, r1, r2, r3, hb⟩
  have HB := Lib.hid hb
  have R3 := Lib.hid r3
  clear hb r3
  by_cases hneg : r < 0
  · go_wp2
    go_ret
    exact ⟨rfl, HB.out⟩
  have hFit := R3.out (by omega)
  go_wp2_with fail
  refine (sz55 bo dap ms hFM r (by omega) (by omega) _ (HM.out.after HB.out)).mono ?_
  rintro e w2 ⟨r', rfl, r1', r2', r3', hb⟩
  have HB2 := Lib.hid (HB.out.trans (hb.mono HB.out.size))
  have R3' := Lib.hid r3'
  clear hb r3'
  by_cases hneg' : r' < 0
  · go_wp2
    go_ret
    exact ⟨rfl, HB2.out⟩
  have hFit2 := R3'.out (by omega)
  go_wp2_with fail
  refine (to43 ao cap l hFit _ (H.out.after HB2.out)).mono ?_
  intro e w3 hm
  obtain ⟨ao3, c3, rfl, _, hl3, hb⟩ := made_row hm
  have HL3 := Lib.hid hl3
  have HB3 := Lib.hid (HB2.out.trans (hb.mono HB2.out.size))
  clear hm hl3 hb
  go_wp2_with fail
  refine (to56 bo dap ms hFit2 _ (HM.out.after HB3.out)).mono ?_
  intro e w4 hm
  obtain ⟨ao4, c4, rfl, hl4, hb⟩ := madeM_row hm
  have HM4 := Lib.hid hl4
  have HL4 := Lib.hid (HL3.out.after hb)
  have HB4 := Lib.hid (HB3.out.trans (hb.mono HB3.out.size))
  clear hm hl4 hb
  go_wp2_with fail
  refine (all37 ao3 ao4 c3 c4 l hFit ms hFit2 _ HL4.out HM4.out).mono ?_
  rintro e w5 ⟨rfl, hb⟩
  have HB5 := Lib.hid (HB4.out.trans (hb.mono HB4.out.size))
  clear hb
  go_wp2_with fail
  refine (to43 ao cap l hFit _ (H.out.after HB5.out)).mono ?_
  intro e w6 hm
  obtain ⟨ao6, c6, rfl, _, hl6, hb⟩ := made_row hm
  have HL6 := Lib.hid hl6
  have HB6 := Lib.hid (HB5.out.trans (hb.mono HB5.out.size))
  clear hm hl6 hb
  go_wp2_with fail
  refine (to56 bo dap ms hFit2 _ (HM.out.after HB6.out)).mono ?_
  intro e w7 hm
  obtain ⟨ao7, c7, rfl, hl7, hb⟩ := madeM_row hm
  have HM7 := Lib.hid hl7
  have HL7 := Lib.hid (HL6.out.after hb)
  have HB7 := Lib.hid (HB6.out.trans (hb.mono HB6.out.size))
  clear hm hl7 hb
  go_wp2_with fail
  refine (all36 ao6 ao7 c6 c7 l hFit ms hFit2 _ (HT.out.1.below' HB7.out) (HT.out.2.below' HB7.out) HL7.out HM7.out).mono ?_
  rintro e w8 ⟨rfl, hb⟩
  have HB8 := Lib.hid (HB7.out.trans (hb.mono HB7.out.size))
  have HL8 := Lib.hid (HL7.out.after hb)
  have HM8 := Lib.hid (HM7.out.after hb)
  clear hb
  generalize allV2 l ms = g
  generalize allB2 l ms = q
  have hgg : (g != g) = false := by cases g <;> rfl
  have hqq : (q != q) = false := by cases q <;> rfl
  go_wp2_with fail
  refine (to43 ao cap l hFit _ (H.out.after HB8.out)).mono ?_
  intro e w9 hm
  obtain ⟨ao9, c9, rfl, _, hl9, hb⟩ := made_row hm
  have HL9 := Lib.hid hl9
  have HL89 := Lib.hid (HL8.out.after hb)
  have HM89 := Lib.hid (HM8.out.after hb)
  have HB9 := Lib.hid (HB8.out.trans (hb.mono HB8.out.size))
  clear hm hl9 hb
  go_wp2_with fail
  refine (eq44 ao6 ao9 c6 c9 l hFit _ HL89.out HL9.out).mono ?_
  rintro e w10 ⟨rfl, hb⟩
  have HB10 := Lib.hid (HB9.out.trans (hb.mono HB9.out.size))
  have HM10 := Lib.hid (HM89.out.after hb)
  clear hb
  go_wp2_with fail
  refine (to56 bo dap ms hFit2 _ (HM.out.after HB10.out)).mono ?_
  intro e w11 hm
  obtain ⟨ao11, c11, rfl, hl11, hb⟩ := madeM_row hm
  have HM11 := Lib.hid hl11
  have HM1011 := Lib.hid (HM10.out.after hb)
  have HB11 := Lib.hid (HB10.out.trans (hb.mono HB10.out.size))
  clear hm hl11 hb
  go_wp2_with fail
  refine (eq57 ao7 ao11 c7 c11 ms hFit2 _ HM1011.out HM11.out).mono ?_
  rintro e w12 ⟨rfl, hb⟩
  have HB12 := Lib.hid (HB11.out.trans (hb.mono HB11.out.size))
  clear hb
  go_wp2
  go_ret
  exact ⟨rfl, HB12.out⟩
end Go.Proofs.YtpbcgfgjdimpmaaDoor
