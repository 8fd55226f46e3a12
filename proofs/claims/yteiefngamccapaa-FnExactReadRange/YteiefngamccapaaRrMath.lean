/- Mathematics of reading a series: the samples whose times lie within bounds. No program is spoken of. -/
import Derived.Test.YteiefngamccapaaK3
import Derived.Test.YteiefngamccapaaK5

namespace Go.Proofs.Yteiefngamccapaa
open Go.RowKit Go.Deep

def inP (a b : Int) (x : Smp) : Bool := decide (a ≤ x.1) && decide (x.1 ≤ b)
/-- The samples whose times lie within a and b. -/
def inL (l : List Smp) (a b : Int) : List Smp := l.filter (inP a b)
theorem inL_nil (a b : Int) : inL [] a b = [] := rfl
theorem inL_len (l : List Smp) (a b : Int) : (inL l a b).length ≤ l.length := List.length_filter_le _ _
theorem inL_yes {l : List Smp} {a b : Int} {k : Nat} (hk : k < l.length) (h1 : a ≤ l[k].1) (h2 : l[k].1 ≤ b) : inL (l.take (k + 1)) a b = inL (l.take k) a b ++ [l[k]] := by
  unfold inL
  rw [List.take_succ_eq_append_getElem hk, List.filter_append, List.filter_cons_of_pos (by simp [inP, h1, h2]), List.filter_nil]
theorem inL_no {l : List Smp} {a b : Int} {k : Nat} (hk : k < l.length) (h : ¬ (a ≤ l[k].1 ∧ l[k].1 ≤ b)) : inL (l.take (k + 1)) a b = inL (l.take k) a b := by
  unfold inL
  rw [List.take_succ_eq_append_getElem hk, List.filter_append, List.filter_cons_of_neg (by simp only [inP, Bool.and_eq_true, decide_eq_true_eq]; exact h), List.filter_nil, List.append_nil]
theorem inL_all (l : List Smp) (a b : Int) : inL (l.take l.length) a b = inL l a b := by rw [List.take_length]
theorem inL_take_len (l : List Smp) (a b : Int) (k : Nat) : (inL (l.take k) a b).length ≤ l.length := by
  have h1 := inL_len (l.take k) a b
  rw [List.length_take] at h1
  omega
/-- What a read of a series answers. -/
noncomputable def rrL (cs : List Chk) (fl a b : Int) : List Smp := if gsB cs fl = true then inL (serL cs) a b else []
theorem rr_no {cs : List Chk} {fl a b : Int} (h : gsB cs fl = false) : rrL cs fl a b = [] := by unfold rrL; rw [if_neg (by rw [h]; decide)]
theorem rr_yes {cs : List Chk} {fl a b : Int} (h : gsB cs fl = true) : rrL cs fl a b = inL (serL cs) a b := by unfold rrL; rw [if_pos h]
theorem rr_len (cs : List Chk) (fl a b : Int) : (rrL cs fl a b).length ≤ 48 := by
  by_cases h : gsB cs fl = true
  · rw [rr_yes h]
    have h1 := inL_len (serL cs) a b
    have h2 := serL_len cs
    have h3 := (gs_is h).len
    omega
  · rw [rr_no (by simpa using h)]; simp
end Go.Proofs.Yteiefngamccapaa
