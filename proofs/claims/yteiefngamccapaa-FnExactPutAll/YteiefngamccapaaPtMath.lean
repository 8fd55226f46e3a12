/- Mathematics of putting a sample into a series: the code that is told, and the chunks that it comes to. No program is spoken of. -/
import Derived.Test.YteiefngamccapaaLsMath
import Derived.Test.YteiefngamccapaaChMath2
import Derived.Test.YteiefngamccapaaK15

namespace Go.Proofs.Yteiefngamccapaa

/-- The code that putting a sample tells. -/
noncomputable def cdF (cs : List Chk) (fl : Int) (x : Smp) : Int :=
  if (x.1 < fl ∨ ¬ (-1000000 ≤ x.1 ∧ x.1 ≤ 1000000)) then 4
  else if (lsB (serL cs) = true ∧ x.1 = (lsV (serL cs)).1 ∧ sameB x.2 (lsV (serL cs)).2 = true) then 1
  else if (lsB (serL cs) = true ∧ x.1 = (lsV (serL cs)).1) then 2
  else if (lsB (serL cs) = true ∧ x.1 < (lsV (serL cs)).1) then 3
  else if (cs.length = 6 ∧ mF cs 5 = 8) then 5
  else 0
/-- The chunks with room behind them. -/
def rmL (cs : List Chk) : List Chk := if cs.length = 0 ∨ mF cs (cs.length - 1) = 8 then cs ++ [zeroC] else cs
/-- The chunks when the sample has been put. -/
noncomputable def ptL (cs : List Chk) (fl : Int) (x : Smp) : List Chk := if cdF cs fl x = 0 then (rmL cs).set ((rmL cs).length - 1) (adC ((rmL cs).getD ((rmL cs).length - 1) zeroC) x) else cs
theorem rmL_pos (cs : List Chk) : 0 < (rmL cs).length := by
  unfold rmL; split
  · simp
  · rename_i h
    omega
theorem rmL_len (cs : List Chk) : (rmL cs).length ≤ cs.length + 1 := by
  unfold rmL; split
  · simp
  · omega
theorem ptL_len (cs : List Chk) (fl : Int) (x : Smp) : (ptL cs fl x).length ≤ cs.length + 1 := by
  unfold ptL; split
  · rw [List.length_set]; exact rmL_len cs
  · omega
theorem many_le {c : Chk} (h : soB c = true) : 0 ≤ c.2.1 ∧ c.2.1 ≤ 8 := by
  have h1 := so_many h
  have h2 := (so_fit c).2
  omega
theorem mF_le {cs : List Chk} (h : allB cs = true) {k : Nat} (hk : k < cs.length) : 0 ≤ mF cs k ∧ mF cs k ≤ 8 := by
  rw [← mF_at hk]; exact many_le (allB_at h hk)
/-- What a put of a series answers. -/
noncomputable def psL (cs : List Chk) (fl : Int) (x : Smp) : List Chk := if gsB cs fl = true then ptL cs fl x else []
noncomputable def psC (cs : List Chk) (fl : Int) (x : Smp) : Int := if gsB cs fl = true then cdF cs fl x else 0
theorem ps_no {cs : List Chk} {fl : Int} (x : Smp) (h : gsB cs fl = false) : psL cs fl x = [] ∧ psC cs fl x = 0 := by
  unfold psL psC; rw [if_neg (by rw [h]; decide), if_neg (by rw [h]; decide)]; exact ⟨rfl, rfl⟩
theorem ps_yes {cs : List Chk} {fl : Int} (x : Smp) (h : gsB cs fl = true) : psL cs fl x = ptL cs fl x ∧ psC cs fl x = cdF cs fl x := by
  unfold psL psC; rw [if_pos h, if_pos h]; exact ⟨rfl, rfl⟩
theorem psL_len (cs : List Chk) (fl : Int) (x : Smp) : (psL cs fl x).length ≤ 1048576 := by
  by_cases h : gsB cs fl = true
  · have h6 := (gs_is h).len
    have := ptL_len cs fl x
    rw [(ps_yes x h).1]; omega
  · rw [(ps_no x (by simpa using h)).1]; simp
theorem cd_bounds {cs : List Chk} {fl : Int} {x : Smp} (h : x.1 < fl ∨ ¬ (-1000000 ≤ x.1 ∧ x.1 ≤ 1000000)) : cdF cs fl x = 4 := by unfold cdF; rw [if_pos h]
theorem cd_same {cs : List Chk} {fl : Int} {x : Smp} (h : ¬ (x.1 < fl ∨ ¬ (-1000000 ≤ x.1 ∧ x.1 ≤ 1000000))) (h1 : lsB (serL cs) = true) (h2 : x.1 = (lsV (serL cs)).1) (h3 : sameB x.2 (lsV (serL cs)).2 = true) : cdF cs fl x = 1 := by
  unfold cdF; rw [if_neg h, if_pos ⟨h1, h2, h3⟩]
theorem cd_twice {cs : List Chk} {fl : Int} {x : Smp} (h : ¬ (x.1 < fl ∨ ¬ (-1000000 ≤ x.1 ∧ x.1 ≤ 1000000))) (h1 : lsB (serL cs) = true) (h2 : x.1 = (lsV (serL cs)).1) (h3 : sameB x.2 (lsV (serL cs)).2 = false) : cdF cs fl x = 2 := by
  unfold cdF; rw [if_neg h, if_neg (fun e => by rw [h3] at e; cases e.2.2), if_pos ⟨h1, h2⟩]
theorem cd_order {cs : List Chk} {fl : Int} {x : Smp} (h : ¬ (x.1 < fl ∨ ¬ (-1000000 ≤ x.1 ∧ x.1 ≤ 1000000))) (h1 : lsB (serL cs) = true) (h2 : x.1 < (lsV (serL cs)).1) : cdF cs fl x = 3 := by
  unfold cdF; rw [if_neg h, if_neg (fun e => by omega), if_neg (fun e => by omega), if_pos ⟨h1, h2⟩]
theorem cd_rest {cs : List Chk} {fl : Int} {x : Smp} (h : ¬ (x.1 < fl ∨ ¬ (-1000000 ≤ x.1 ∧ x.1 ≤ 1000000))) (h1 : lsB (serL cs) = false ∨ (lsV (serL cs)).1 < x.1) : cdF cs fl x = if (cs.length = 6 ∧ mF cs 5 = 8) then 5 else 0 := by
  unfold cdF
  have hn : ¬ (lsB (serL cs) = true ∧ x.1 ≤ (lsV (serL cs)).1) := fun e => by
    rcases h1 with h1 | h1
    · rw [h1] at e; cases e.1
    · omega
  rw [if_neg h, if_neg (fun e => hn ⟨e.1, by omega⟩), if_neg (fun e => hn ⟨e.1, by omega⟩), if_neg (fun e => hn ⟨e.1, by omega⟩)]
theorem cd_zero {cs : List Chk} {fl : Int} {x : Smp} (h : cdF cs fl x = 0) : ¬ (cs.length = 6 ∧ mF cs 5 = 8) := by
  intro e
  unfold cdF at h
  rw [if_pos e] at h
  split at h
  · omega
  split at h
  · omega
  split at h
  · omega
  split at h
  · omega
  omega
theorem rm_len6 {cs : List Chk} {fl : Int} {x : Smp} (h6 : cs.length ≤ 6) (h : cdF cs fl x = 0) : (rmL cs).length ≤ 6 := by
  have hz := cd_zero h
  unfold rmL; split
  · rename_i e
    rw [List.length_append]
    have : cs.length ≠ 6 := fun e6 => by
      rcases e with e | e
      · omega
      · exact hz ⟨e6, by rw [e6] at e; exact e⟩
    show cs.length + 1 ≤ 6
    omega
  · omega
/-- The last of the chunks with room. -/
theorem ptL_yes {cs : List Chk} {fl : Int} {x : Smp} (h : cdF cs fl x = 0) : ptL cs fl x = (rmL cs).set ((rmL cs).length - 1) (adC ((rmL cs).getD ((rmL cs).length - 1) zeroC) x) := by unfold ptL; rw [if_pos h]
theorem ptL_no {cs : List Chk} {fl : Int} {x : Smp} (h : cdF cs fl x ≠ 0) : ptL cs fl x = cs := by unfold ptL; rw [if_neg h]
theorem rm_new {cs : List Chk} (h : cs.length = 0 ∨ mF cs (cs.length - 1) = 8) : rmL cs = cs ++ [zeroC] := by unfold rmL; rw [if_pos h]
theorem rm_old {cs : List Chk} (h : ¬ (cs.length = 0 ∨ mF cs (cs.length - 1) = 8)) : rmL cs = cs := by unfold rmL; rw [if_neg h]
end Go.Proofs.Yteiefngamccapaa
