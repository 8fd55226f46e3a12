/- Helpers of the exact laws on matchers, and the walks of the laws FnExactIsLike and FnExactTakesNone. -/
import Derived.Test.YtpbcgfgjdimpmaaDoorBarr
namespace Go.Proofs.YtpbcgfgjdimpmaaDoor
open Go.RowKit Go.Deep

theorem own_slice {w : World} {base : Nat} {e : TypeId} {size n : Nat} {v : Value} {xs : List Value} (h : w.ownsRow base e size v n xs) : ∃ ao c, v = .slice ao n c := by
  rcases h.2 with ⟨rfl, rfl⟩ | ⟨g, cap, cur, rfl, _⟩
  · exact ⟨_, _, rfl⟩
  · exact ⟨_, _, rfl⟩

/-- A copy is a slice that holds the labels. -/
theorem made_row {w w' : World} {base : Nat} {l : List Lab} {e : Ending} (h : Made base l w e w') : ∃ ao c, e = .returned (.slice ao l.length c) ∧ w'.ownsRow base 82 2 (.slice ao l.length c) l.length (cellsOf l) ∧ LRow w' w'.heap.size ao l ∧ Below w.heap.size w w' := by
  obtain ⟨v, rfl, ho, hb⟩ := h
  obtain ⟨ao, c, rfl⟩ := own_slice ho
  exact ⟨ao, c, rfl, ho, (LRow.of_own ho).2, hb⟩

theorem sz59 (k : Int) (a b : ByteArray) (ha : a.size ≤ maxLen) (hb : b.size ≤ maxLen) (left : Int) (h0 : 0 ≤ left) (h1 : left ≤ 1048576) (w : World) :
    Calls Tryd.prog 59 #[matV k a b, .int .i64 left] w (Sz (a.size ≤ 1048576 ∧ b.size ≤ 1048576) left w) := by
  unfold maxLen at ha hb
  by_cases c1 : left < a.size
  · go_enter Tryd.func59, Tryd.ntmps59
    go_wp2
    go_ret
    exact ⟨-1, rfl, by omega, by omega, fun h => by omega, (Below.refl _ _).alloc (Nat.le_refl _) _⟩
  by_cases c2 : left - a.size < b.size
  · go_enter Tryd.func59, Tryd.ntmps59
    go_wp2
    go_ret
    exact ⟨-1, rfl, by omega, by omega, fun h => by omega, (Below.refl _ _).alloc (Nat.le_refl _) _⟩
  · go_enter Tryd.func59, Tryd.ntmps59
    go_wp2
    go_ret
    exact ⟨_, rfl, by omega, by omega, fun h => by omega, (Below.refl _ _).alloc (Nat.le_refl _) _⟩

set_option maxRecDepth 100000 in
theorem to61 (k : Int) (a b : ByteArray) (w : World) : Calls Tryd.prog 61 #[matV k a b] w fun e w' => e = .returned (matV k a b) ∧ Below w.heap.size w w' := by
  go_enter Tryd.func61, Tryd.ntmps61
  go_wp2
  exact bodyPost_ret (v := matV k a b) (by simp [results, Tryd.results61, go_sem]) rfl ⟨rfl, (((Below.refl _ _).alloc (Nat.le_refl _) _).alloc (by simp) _).alloc (by simp; omega) _⟩

set_option maxHeartbeats 1000000 in
theorem walk_fnExactIsLike (w : World) (f s : ByteArray) (hT : Barred w ∧ MaxC w) (hf : f.size ≤ maxLen) (hs : s.size ≤ maxLen) :
    Calls Tryd.prog 8 #[.string f, .string s] w fun e w' => e = .returned (.bool true) ∧ Below w.heap.size w w' := by
  unfold maxLen at hf hs
  have HT := Lib.hid hT
  clear hT
  by_cases h1 : 1048576 < f.size
  · go_enter Tryd.func8, Tryd.ntmps8
    go_wp2
    go_ret
    exact ⟨rfl, Below.refl _ _⟩
  by_cases h2 : 1048576 < s.size
  · go_enter Tryd.func8, Tryd.ntmps8
    go_wp2
    go_ret
    exact ⟨rfl, Below.refl _ _⟩
  go_enter Tryd.func8, Tryd.ntmps8
  go_wp2_with fail
  refine (like42 f s (by omega) (by omega) _).mono ?_
  rintro e w1 ⟨rfl, hb⟩
  have HB := Lib.hid hb
  clear hb
  go_wp2_with fail
  refine (like41b f s (by omega) (by omega) _ (HT.out.1.below' HB.out) (HT.out.2.below' HB.out)).mono ?_
  rintro e w2 ⟨rfl, hb⟩
  have HB2 := Lib.hid (HB.out.trans (hb.mono HB.out.size))
  clear hb
  generalize (wordB f && (wordB s && likeS f s)) = g
  generalize (wordB f && wordB s) = h
  have hgg : (g != g) = false := by cases g <;> rfl
  have hhh : (h != h) = false := by cases h <;> rfl
  go_wp2
  go_ret
  exact ⟨rfl, HB2.out⟩

set_option maxHeartbeats 1000000 in
theorem walk_fnExactTakesNone (w : World) (k : Int) (n s : ByteArray) (hT : Tabs w ∧ MaxC w) (hn : n.size ≤ maxLen) (hs : s.size ≤ maxLen) :
    Calls Tryd.prog 13 #[matV k n s] w fun e w' => e = .returned (.bool true) ∧ Below w.heap.size w w' := by
  have HT := Lib.hid hT
  clear hT
  have HB := Lib.hid ((Below.refl w.heap.size w).alloc (Nat.le_refl _) (.cells #[.int .i64 k, .string n, .string s] 72))
  go_enter Tryd.func13, Tryd.ntmps13
  go_wp2_with fail
  refine (sz59 k n s hn hs 1048576 (by omega) (by omega) _).mono ?_
  rintro e w1 ⟨r, rfl, r1, r2, r3, hb⟩
  have HB1 := Lib.hid (HB.out.trans (hb.mono HB.out.size))
  obtain ⟨k1, k2, k3⟩ := box3_cells hb
  have HV1 := Lib.hid hb
  have R3 := Lib.hid r3
  clear hb r3
  by_cases hneg : r < 0
  · go_wp2
    go_ret
    exact ⟨rfl, HB1.out⟩
  have hFit := R3.out (by omega)
  go_wp2_with fail
  refine (to61 k n s _).mono ?_
  rintro e w2 ⟨rfl, hb⟩
  have HB2 := Lib.hid (HB1.out.trans (hb.mono HB1.out.size))
  have HV2 := Lib.hid (HV1.out.trans (hb.mono HV1.out.size))
  clear hb
  go_wp2_with fail
  refine (takes44 k n s hFit.1 hFit.2 _).mono ?_
  rintro e w3 ⟨rfl, hb⟩
  have HB3 := Lib.hid (HB2.out.trans (hb.mono HB2.out.size))
  have HV3 := Lib.hid (HV2.out.trans (hb.mono HV2.out.size))
  clear hb k1 k2 k3
  obtain ⟨k1, k2, k3⟩ := box3_cells HV3.out
  go_wp2_with fail
  refine (to61 k n s _).mono ?_
  rintro e w4 ⟨rfl, hb⟩
  have HB4 := Lib.hid (HB3.out.trans (hb.mono HB3.out.size))
  clear hb
  go_wp2_with fail
  refine (takes34 k n s hFit.2 _ (HT.out.1.below' HB4.out) (HT.out.2.below' HB4.out)).mono ?_
  rintro e w5 ⟨rfl, hb⟩
  have HB5 := Lib.hid (HB4.out.trans (hb.mono HB4.out.size))
  clear hb
  generalize (matB (k, n, s) && takesB k s emp) = g
  generalize matB (k, n, s) = h
  have hgg : (g != g) = false := by cases g <;> rfl
  have hhh : (h != h) = false := by cases h <;> rfl
  go_wp2
  go_ret
  exact ⟨rfl, HB5.out⟩
end Go.Proofs.YtpbcgfgjdimpmaaDoor
