/- Mathematics of cutting a series' head. No program is spoken of. -/
import Derived.Test.YteiefngamccapaaK5

namespace Go.Proofs.Yteiefngamccapaa

/-- An empty chunk is laid behind the others. -/
def addB (cs : List Chk) : Bool := decide (0 < cs.length) && (decide (cs.length < 6) && decide (0 < mF cs (cs.length - 1)))
noncomputable def chL (cs : List Chk) (fl : Int) : List Chk := if gsB cs fl = true then (if addB cs = true then cs ++ [zeroC] else cs) else []
noncomputable def flF (cs : List Chk) (fl : Int) : Int := if gsB cs fl = true then fl else 0
theorem chL_no {cs : List Chk} {fl : Int} (h : gsB cs fl = false) : chL cs fl = [] := by unfold chL; rw [if_neg (by rw [h]; decide)]
theorem flF_no {cs : List Chk} {fl : Int} (h : gsB cs fl = false) : flF cs fl = 0 := by unfold flF; rw [if_neg (by rw [h]; decide)]
theorem flF_yes {cs : List Chk} {fl : Int} (h : gsB cs fl = true) : flF cs fl = fl := by unfold flF; rw [if_pos h]
theorem chL_same {cs : List Chk} {fl : Int} (h : gsB cs fl = true) (ha : ¬ (0 < cs.length ∧ cs.length < 6 ∧ 0 < mF cs (cs.length - 1))) : chL cs fl = cs := by
  unfold chL; rw [if_pos h, if_neg]; intro hc; apply ha; unfold addB at hc; simp only [Bool.and_eq_true, decide_eq_true_eq] at hc; exact hc
theorem chL_more {cs : List Chk} {fl : Int} (h : gsB cs fl = true) (h1 : 0 < cs.length) (h2 : cs.length < 6) (h3 : 0 < mF cs (cs.length - 1)) : chL cs fl = cs ++ [zeroC] := by
  unfold chL; rw [if_pos h, if_pos]; unfold addB; simp [h1, h2, h3]
theorem chL_len (cs : List Chk) (fl : Int) : (chL cs fl).length ≤ 1048576 := by
  by_cases h : gsB cs fl = true
  · have h6 := (gs_is h).len
    unfold chL; rw [if_pos h]; split
    · rw [List.length_append]; simp; omega
    · omega
  · rw [chL_no (by simpa using h)]; simp
end Go.Proofs.Yteiefngamccapaa
