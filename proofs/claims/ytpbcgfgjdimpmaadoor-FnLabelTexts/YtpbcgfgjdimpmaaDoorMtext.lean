/- Contracts of the text of a matcher, in the program and in the model, over this seat's translation. -/
import Derived.Test.YtpbcgfgjdimpmaaDoorMatch
import Derived.Deep.RegionWith
namespace Go.Proofs.YtpbcgfgjdimpmaaDoor
open Go.RowKit Go.Deep

/-- The text of a matcher. -/
def mtext (k : Int) (n s : ByteArray) : ByteArray := n ++ signB k ++ ⟨#[34]⟩ ++ s ++ ⟨#[34]⟩
def mtextF (k : Int) (n s : ByteArray) : ByteArray := bif matB (k, n, s) then mtext k n s else emp
theorem mtextF_no {k : Int} {n s : ByteArray} (h : matB (k, n, s) = false) : mtextF k n s = emp := by simp [mtextF, h]
theorem mtextF_yes {k : Int} {n s : ByteArray} (h : matB (k, n, s) = true) : mtextF k n s = mtext k n s := by simp [mtextF, h]

theorem mat_name_size {k : Int} {n s : ByteArray} (h : matB (k, n, s) = true) : n.size ≤ 12 := by
  unfold matB nameB at h; simp only [Bool.and_eq_true, decide_eq_true_eq] at h; exact h.2.1.1.1.2
theorem mat_word_size {k : Int} {n s : ByteArray} (h : matB (k, n, s) = true) : s.size ≤ 12 := by
  unfold matB wordB at h; simp only [Bool.and_eq_true, decide_eq_true_eq] at h; exact h.2.2.1
theorem sign_size (k : Int) : (signB k).size ≤ 2 := by
  unfold signB; split
  · decide
  · split
    · decide
    · split <;> decide
set_option maxHeartbeats 4000000 in
set_option maxRecDepth 100000 in
theorem mtext46 (k : Int) (n s : ByteArray) (w : World) (hT : Tabs w) :
    Calls Tryd.prog 46 #[matV k n s] w fun e w' => e = .returned (.tuple #[.string (mtextF k n s), .bool (matB (k, n, s))]) ∧ Below w.heap.size w w' := by
  have HB := Lib.hid ((Below.refl w.heap.size w).alloc (Nat.le_refl _) (.cells #[.int .i64 k, .string n, .string s] 43))
  go_enter Tryd.func46, Tryd.ntmps46
  go_wp2_with fail
  refine (good82 k n s _ (hT.below' HB.out)).mono ?_
  rintro e w1 ⟨rfl, hb⟩
  have HB2 := Lib.hid (HB.out.trans (hb.mono HB.out.size))
  obtain ⟨k1, k2, k3⟩ := box3_cells hb
  clear hb
  by_cases hg : matB (k, n, s) = true
  case neg =>
    have hg : matB (k, n, s) = false := by simpa using hg
    have HG := Lib.hid hg
    have HI := Lib.hid (mtextF_no hg)
    go_wp2
    go_ret2
    exact ⟨ret_strb HI.out.symm HG.out.symm, HB2.out⟩
  have HG := Lib.hid hg
  have HI := Lib.hid (mtextF_yes hg)
  have hn := mat_name_size hg
  have hs := mat_word_size hg
  have hz := sign_size k
  go_wp2_with fail
  clear hg
  go_quiet ((first | (go_at_call 86; exact Calls.quiet_of_same (rule86 k s _)) | (go_at_call 93; exact Calls.quiet_of_same (sign93 k s _))))
  go_wp2
  go_ret2
  exact ⟨ret_strb HI.out.symm HG.out.symm, below_drewN HB2.out _⟩

def signCells : Array Value := #[.string ⟨#[]⟩, .string ⟨#[61]⟩, .string ⟨#[33, 61]⟩, .string ⟨#[61, 126]⟩, .string ⟨#[33, 126]⟩]
theorem signs94 (w : World) : Calls Tryd.prog 94 #[] w fun e w' => e = .returned (.slice (some ⟨w.heap.size, 0, none⟩) 5 5) ∧ w' = w.alloc (.cells #[.string ⟨#[]⟩, .string ⟨#[61]⟩, .string ⟨#[33, 61]⟩, .string ⟨#[61, 126]⟩, .string ⟨#[33, 126]⟩] 9) := by
  go_enter Tryd.func94, Tryd.ntmps94
  go_wp2
  go_ret
  exact ⟨rfl, rfl⟩

/-- The signs' cells, in a new block. -/
theorem signs94b (w : World) : Calls Tryd.prog 94 #[] w fun e w' => ∃ g, e = .returned (.slice (some ⟨g, 0, none⟩) 5 5) ∧ Below w.heap.size w w' ∧
    w'.cell? ⟨g, 0, none⟩ = some (.string ⟨#[]⟩) ∧ w'.cell? ⟨g, 1, none⟩ = some (.string ⟨#[61]⟩) ∧ w'.cell? ⟨g, 2, none⟩ = some (.string ⟨#[33, 61]⟩) ∧ w'.cell? ⟨g, 3, none⟩ = some (.string ⟨#[61, 126]⟩) ∧ w'.cell? ⟨g, 4, none⟩ = some (.string ⟨#[33, 126]⟩) := by
  refine (signs94 w).mono ?_
  rintro e w' ⟨rfl, rfl⟩
  exact ⟨w.heap.size, rfl, (Below.refl _ _).alloc (Nat.le_refl _) _, by simp, by simp, by simp, by simp, by simp⟩

theorem sign1 : signB 1 = ⟨#[61]⟩ := rfl
theorem sign2 : signB 2 = ⟨#[33, 61]⟩ := rfl
theorem sign3 : signB 3 = ⟨#[61, 126]⟩ := rfl
theorem sign4 : signB 4 = ⟨#[33, 126]⟩ := rfl

theorem signs94c (j : Nat) (h1 : 1 ≤ j) (h4 : j ≤ 4) (w : World) : Calls Tryd.prog 94 #[] w fun e w' => ∃ g, e = .returned (.slice (some ⟨g, 0, none⟩) 5 5) ∧ Below w.heap.size w w' ∧ w'.cell? ⟨g, j, none⟩ = some (.string (signB j)) := by
  refine (signs94b w).mono ?_
  rintro e w' ⟨g, rfl, hb, _, c1, c2, c3, c4⟩
  refine ⟨g, rfl, hb, ?_⟩
  obtain rfl | rfl | rfl | rfl : j = 1 ∨ j = 2 ∨ j = 3 ∨ j = 4 := by omega
  · exact c1
  · exact c2
  · exact c3
  · exact c4
set_option maxHeartbeats 20000000 in
set_option maxRecDepth 100000 in
theorem mtext47 (k : Int) (n s : ByteArray) (hn : n.size ≤ 1048576) (hs : s.size ≤ 1048576) (w : World) :
    Calls Tryd.prog 47 #[matV k n s] w fun e w' => e = .returned (.tuple #[.string (mtextF k n s), .bool (matB (k, n, s))]) ∧ Below w.heap.size w w' := by
  have HB := Lib.hid ((Below.refl w.heap.size w).alloc (Nat.le_refl _) (.cells #[.int .i64 k, .string n, .string s] 43))
  go_enter Tryd.func47, Tryd.ntmps47
  go_wp2_with fail
  refine (good84 k n s hn hs _).mono ?_
  rintro e w1 ⟨rfl, hb⟩
  have HB2 := Lib.hid (HB.out.trans (hb.mono HB.out.size))
  obtain ⟨k1, k2, k3⟩ := box3_cells hb
  have hlt : w.heap.size < w1.heap.size := by have := hb.size; simp at this; omega
  clear hb
  by_cases hg : matB (k, n, s) = true
  case neg =>
    have hg : matB (k, n, s) = false := by simpa using hg
    have HG := Lib.hid hg
    have HI := Lib.hid (mtextF_no hg)
    go_wp2
    go_ret2
    exact ⟨ret_strb HI.out.symm HG.out.symm, HB2.out⟩
  have HG := Lib.hid hg
  have HI := Lib.hid (mtextF_yes hg)
  have hk := mat_kind hg
  obtain ⟨h1, h4⟩ := kind_of hk
  obtain ⟨j, rfl⟩ : ∃ j : Nat, k = j := ⟨k.toNat, by omega⟩
  have hn' := mat_name_size hg
  have hs' := mat_word_size hg
  have hz := sign_size (j : Int)
  go_wp2_with fail
  have h1' : 1 ≤ j := by omega
  have h4' : j ≤ 4 := by omega
  clear hg hk h1 h4 HB
  have HC := Lib.hid (fun w => signs94c j h1' h4' w)
  obtain ⟨z, hzz⟩ : ∃ z, z = signB (j : Int) := ⟨_, rfl⟩
  rw [← hzz] at HC hz
  have HZ := Lib.hid hzz
  clear hzz
  go_region_with (go_at_call 94; refine (HC.out _).mono ?_; rintro e w2 ⟨g, rfl, hb2, c0⟩; have k1' := (hb2.cell (p := ⟨w.heap.size, 0, none⟩) hlt).trans k1; have k2' := (hb2.cell (p := ⟨w.heap.size, 1, none⟩) hlt).trans k2; have k3' := (hb2.cell (p := ⟨w.heap.size, 2, none⟩) hlt).trans k3; have HB3 := Lib.hid hb2; clear hb2)
  all_goals
    go_wp2
    go_ret2
    first
      | exact ⟨ret_strb (by rw [HI.out, HZ.out]; rfl) HG.out.symm, HB2.out.drew.trans (HB3.out.mono HB2.out.size)⟩
      | exact ⟨ret_strb (by rw [HI.out, HZ.out]; rfl) HG.out.symm, (HB2.out.trans (HB3.out.mono HB2.out.size)).drew⟩
      | exact ⟨ret_strb (by rw [HI.out, HZ.out]; rfl) HG.out.symm, HB2.out.trans (HB3.out.mono HB2.out.size)⟩
end Go.Proofs.YtpbcgfgjdimpmaaDoor
