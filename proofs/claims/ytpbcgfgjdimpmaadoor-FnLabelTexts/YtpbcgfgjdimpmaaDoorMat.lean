/- Contracts of one good matcher in the program and in the model, over this seat's translation: both sides answer matB. -/
import Derived.Test.YtpbcgfgjdimpmaaDoorIs
import Derived.Test.YtpbcgfgjdimpmaaDoorLikeMath
namespace Go.Proofs.YtpbcgfgjdimpmaaDoor
open Go.RowKit Go.Deep

/-- A matcher: its Kind, its Name, its Want. -/
abbrev Mat := Int × ByteArray × ByteArray
def kindB (k : Int) : Bool := decide (1 ≤ k) && decide (k ≤ 4)
def matB (m : Mat) : Bool := kindB m.1 && (nameB m.2.1 && wordB m.2.2)
abbrev matV (k : Int) (n s : ByteArray) : Value := .agg #[.int .i64 k, .string n, .string s]
theorem matB_kind {k : Int} {n s : ByteArray} (h : kindB k = false) : matB (k, n, s) = false := by simp [matB, h]
theorem matB_name {k : Int} {n s : ByteArray} (h : nameB n = false) : matB (k, n, s) = false := by simp [matB, h]
theorem matB_word {k : Int} {n s : ByteArray} (h : wordB s = false) : matB (k, n, s) = false := by simp [matB, h]
theorem matB_yes {k : Int} {n s : ByteArray} (h1 : kindB k = true) (h2 : nameB n = true) (h3 : wordB s = true) : matB (k, n, s) = true := by simp [matB, h1, h2, h3]
theorem kind_of {k : Int} (h : kindB k = true) : 1 ≤ k ∧ k ≤ 4 := by simpa [kindB] using h

/-- A new block of a number and two texts, read behind what was made later. -/
theorem box3_cells {wr w1 : World} {k : Int} {x1 x2 : ByteArray} {t : TypeId} (h : Below (wr.alloc (.cells #[.int .i64 k, .string x1, .string x2] t)).heap.size (wr.alloc (.cells #[.int .i64 k, .string x1, .string x2] t)) w1) :
    w1.cell? ⟨wr.heap.size, 0, none⟩ = some (.int .i64 k) ∧ w1.cell? ⟨wr.heap.size, 1, none⟩ = some (.string x1) ∧ w1.cell? ⟨wr.heap.size, 2, none⟩ = some (.string x2) := by
  refine ⟨?_, ?_, ?_⟩
  · rw [h.cell (p := ⟨wr.heap.size, 0, none⟩) (by simp)]; simp
  · rw [h.cell (p := ⟨wr.heap.size, 1, none⟩) (by simp)]; simp
  · rw [h.cell (p := ⟨wr.heap.size, 2, none⟩) (by simp)]; simp

set_option maxHeartbeats 2000000 in
set_option maxRecDepth 100000 in
theorem good82 (k : Int) (n s : ByteArray) (w : World) (hT : Tabs w) :
    Calls Tryd.prog 82 #[matV k n s] w fun e w' => e = .returned (.bool (matB (k, n, s))) ∧ Below w.heap.size w w' := by
  have HB := Lib.hid ((Below.refl w.heap.size w).alloc (Nat.le_refl _) (.cells #[.int .i64 k, .string n, .string s] 43))
  by_cases h1 : 1 ≤ k
  case neg =>
    have HF := Lib.hid (matB_kind (n := n) (s := s) (show kindB k = false by simp [kindB]; omega))
    go_enter Tryd.func82, Tryd.ntmps82
    go_wp2
    go_ret
    exact ⟨ret_bool HF.out.symm, HB.out⟩
  by_cases h4 : k ≤ 4
  case neg =>
    have HF := Lib.hid (matB_kind (n := n) (s := s) (show kindB k = false by simp [kindB]; omega))
    go_enter Tryd.func82, Tryd.ntmps82
    go_wp2
    go_ret
    exact ⟨ret_bool HF.out.symm, HB.out⟩
  have HK := Lib.hid (show kindB k = true by simp [kindB]; omega)
  go_enter Tryd.func82, Tryd.ntmps82
  go_wp2_with fail
  refine (name26 n _ (hT.one.below' HB.out)).mono ?_
  rintro e w1 ⟨rfl, hb1⟩
  have HW1 := Lib.hid (HB.out.trans (hb1.mono HB.out.size))
  obtain ⟨k1, k2, k3⟩ := box3_cells hb1
  clear hb1
  by_cases hN : nameB n = true
  case neg =>
    have hN : nameB n = false := by simpa using hN
    have HF := Lib.hid (matB_name (k := k) (s := s) hN)
    go_wp2
    go_ret
    exact ⟨ret_bool HF.out.symm, HW1.out⟩
  go_wp2_with fail
  refine (word63 s _ (hT.below' HW1.out)).mono ?_
  rintro e w2 ⟨rfl, hb2⟩
  have HW2 := Lib.hid (HW1.out.trans (hb2.mono HW1.out.size))
  clear hb2
  have HF := Lib.hid (show matB (k, n, s) = wordB s by simp [matB, HK.out, hN])
  go_wp2
  go_ret
  exact ⟨ret_bool HF.out.symm, HW2.out⟩

set_option maxHeartbeats 2000000 in
set_option maxRecDepth 100000 in
theorem good84 (k : Int) (n s : ByteArray) (hn : n.size ≤ 1048576) (hs : s.size ≤ 1048576) (w : World) :
    Calls Tryd.prog 84 #[matV k n s] w fun e w' => e = .returned (.bool (matB (k, n, s))) ∧ Below w.heap.size w w' := by
  have HB := Lib.hid ((Below.refl w.heap.size w).alloc (Nat.le_refl _) (.cells #[.int .i64 k, .string n, .string s] 43))
  go_enter Tryd.func84, Tryd.ntmps84
  go_wp2_with fail
  refine (in79 k 1 4 _).mono ?_
  rintro e w1 ⟨rfl, rfl⟩
  by_cases hk : (decide (1 ≤ k) && decide (k ≤ 4)) = true
  case neg =>
    have hk : (decide (1 ≤ k) && decide (k ≤ 4)) = false := by simpa using hk
    have HF := Lib.hid (matB_kind (n := n) (s := s) hk)
    go_wp2
    go_ret
    exact ⟨ret_bool HF.out.symm, HB.out⟩
  have HK := Lib.hid (show kindB k = true from hk)
  go_wp2_with fail
  refine (name73 n (by omega) _).mono ?_
  rintro e w1 ⟨rfl, rfl⟩
  by_cases hN : nameB n = true
  case neg =>
    have hN : nameB n = false := by simpa using hN
    have HF := Lib.hid (matB_name (k := k) (s := s) hN)
    go_wp2
    go_ret
    exact ⟨ret_bool HF.out.symm, HB.out⟩
  go_wp2_with fail
  refine (word91 s (by omega) _).mono ?_
  rintro e w1 ⟨rfl, rfl⟩
  have HF := Lib.hid (show matB (k, n, s) = wordB s by simp [matB, HK.out, hN])
  go_wp2
  go_ret
  exact ⟨ret_bool HF.out.symm, HB.out⟩
end Go.Proofs.YtpbcgfgjdimpmaaDoor
