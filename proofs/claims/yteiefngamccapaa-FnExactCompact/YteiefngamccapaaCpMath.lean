/- Mathematics of making a series compact: its samples eight by eight. No program is spoken of. -/
import Derived.Test.YteiefngamccapaaK14
import Derived.Test.YteiefngamccapaaK5

namespace Go.Proofs.Yteiefngamccapaa

/-- The first j chunks of eight samples each. -/
def cmpT (x : List Smp) (j : Nat) : List Chk := (List.range j).map fun i => pkC ((x.drop (8 * i)).take 8)
def cmpL (x : List Smp) : List Chk := cmpT x ((x.length + 7) / 8)
theorem cmpT_len (x : List Smp) (j : Nat) : (cmpT x j).length = j := by simp [cmpT]
theorem cmpT_succ (x : List Smp) (j : Nat) : cmpT x (j + 1) = cmpT x j ++ [pkC ((x.drop (8 * j)).take 8)] := by
  unfold cmpT; rw [List.range_succ, List.map_append]; rfl
theorem cmpT_all {x : List Smp} {j : Nat} (h1 : x.length ≤ 8 * j) (h2 : 8 * j ≤ x.length + 7) : cmpT x j = cmpL x := by
  unfold cmpL; congr 1; omega
/-- What is cut off of what is left. -/
theorem cut_front {x : List Smp} {j n : Nat} (h : (n = 8 ∧ 8 ≤ (x.drop (8 * j)).length) ∨ (n = (x.drop (8 * j)).length ∧ n ≤ 8)) : (x.drop (8 * j)).take n = (x.drop (8 * j)).take 8 ∧ (x.drop (8 * j)).drop n = x.drop (8 * (j + 1)) := by
  rcases h with ⟨rfl, _⟩ | ⟨h1, h2⟩
  · exact ⟨rfl, by rw [List.drop_drop]; congr 1⟩
  · constructor
    · rw [List.take_of_length_le (by omega), List.take_of_length_le (by omega)]
    · rw [List.drop_of_length_le (by omega)]
      rw [List.length_drop] at h1
      rw [List.drop_of_length_le (by omega)]
noncomputable def cpR (cs : List Chk) (fl : Int) : List Chk := if gsB cs fl = true then cmpL (serL cs) else []
noncomputable def cpF (cs : List Chk) (fl : Int) : Int := if gsB cs fl = true then fl else 0
theorem cpR_no {cs : List Chk} {fl : Int} (h : gsB cs fl = false) : cpR cs fl = [] := by unfold cpR; rw [if_neg (by rw [h]; decide)]
theorem cpF_no {cs : List Chk} {fl : Int} (h : gsB cs fl = false) : cpF cs fl = 0 := by unfold cpF; rw [if_neg (by rw [h]; decide)]
theorem cpR_yes {cs : List Chk} {fl : Int} (h : gsB cs fl = true) : cpR cs fl = cmpL (serL cs) := by unfold cpR; rw [if_pos h]
theorem cpF_yes {cs : List Chk} {fl : Int} (h : gsB cs fl = true) : cpF cs fl = fl := by unfold cpF; rw [if_pos h]
theorem cpR_len (cs : List Chk) (fl : Int) : (cpR cs fl).length ≤ 1048576 := by
  by_cases h : gsB cs fl = true
  · have h6 := (gs_is h).len
    have h8 := serL_len cs
    rw [cpR_yes h]; unfold cmpL; rw [cmpT_len]; omega
  · rw [cpR_no (by simpa using h)]; simp
end Go.Proofs.Yteiefngamccapaa
