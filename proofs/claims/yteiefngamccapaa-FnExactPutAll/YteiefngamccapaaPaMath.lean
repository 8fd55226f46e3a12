/- Mathematics of putting samples into a series, one behind the other: the chunks and the codes. No program is spoken of. -/
import Derived.Test.YteiefngamccapaaPtMath
namespace Go.Proofs.Yteiefngamccapaa
open Go.RowKit Go.Deep

/-- The chunks behind the first k samples, and the codes. -/
noncomputable def paK (cs : List Chk) (fl : Int) (l : List Smp) : Nat → List Chk
  | 0 => cs
  | k + 1 => if h : k < l.length then ptL (paK cs fl l k) fl l[k] else paK cs fl l k
noncomputable def pcK (cs : List Chk) (fl : Int) (l : List Smp) : Nat → List Int
  | 0 => []
  | k + 1 => if h : k < l.length then pcK cs fl l k ++ [cdF (paK cs fl l k) fl l[k]] else pcK cs fl l k
theorem paK_succ {cs : List Chk} {fl : Int} {l : List Smp} {k : Nat} (h : k < l.length) : paK cs fl l (k + 1) = ptL (paK cs fl l k) fl l[k] := by rw [paK, dif_pos h]
theorem pcK_succ {cs : List Chk} {fl : Int} {l : List Smp} {k : Nat} (h : k < l.length) : pcK cs fl l (k + 1) = pcK cs fl l k ++ [cdF (paK cs fl l k) fl l[k]] := by rw [pcK, dif_pos h]
theorem pcK_len {cs : List Chk} {fl : Int} {l : List Smp} : ∀ {k : Nat}, k ≤ l.length → (pcK cs fl l k).length = k
  | 0, _ => rfl
  | k + 1, h => by rw [pcK_succ (by omega), List.length_append, pcK_len (by omega)]; rfl
theorem cd_range (cs : List Chk) (fl : Int) (x : Smp) : 0 ≤ cdF cs fl x ∧ cdF cs fl x ≤ 5 := by
  unfold cdF
  split
  · omega
  split
  · omega
  split
  · omega
  split
  · omega
  split <;> omega
theorem pcK_in {cs : List Chk} {fl : Int} {l : List Smp} : ∀ {k : Nat}, ∀ x ∈ pcK cs fl l k, In64 x
  | 0, x, h => by cases h
  | k + 1, x, h => by
    by_cases hk : k < l.length
    · rw [pcK_succ hk] at h
      rcases List.mem_append.1 h with h | h
      · exact pcK_in x h
      · rw [List.mem_singleton.1 h]
        have := cd_range (paK cs fl l k) fl l[k]
        unfold In64; omega
    · rw [pcK, dif_neg hk] at h
      exact pcK_in x h
/-- What every put keeps. -/
structure PaOk (cs : List Chk) : Prop where
  len : cs.length ≤ 6
  fit : FitC cs 1048576
  all : allB cs = true
theorem str_small {l : List Smp} (hf : FitS l) (h8 : l.length ≤ 8) : (strP l).size ≤ 1048576 := by
  have h1 := tailK_all l
  have h2 := strE_small (l := l.map (·.1)) (fun x hx => by
    obtain ⟨y, hy, rfl⟩ := List.mem_map.1 hx
    exact (hf y hy).1) (by rw [List.length_map]; exact h8)
  have h3 := tailK_len l l.length
  have h4 : (strE (l.map (·.1))).size = (enc (l.map (·.1))).length := by simp [strE, ByteArray.size]
  rw [strP_size, ← h1, List.length_append]
  omega
theorem so_size {c : Chk} (h : soB c = true) : c.1.size ≤ 1048576 := by
  have hg := so_is h
  rw [← hg.2.2]
  by_cases h0 : (soL c).length = 0
  · unfold pkC; rw [if_pos h0]; decide
  · rw [pkC_some (by omega)]
    exact str_small hg.1 hg.len
theorem so_ad (c : Chk) {x : Smp} (hx : FitS [x]) : soB (adC c x) = true := by
  unfold adC
  split
  · rename_i h
    unfold adB at h
    simp only [Bool.and_eq_true] at h
    exact (so_yes (l := soL c ++ [x]) ⟨fun y hy => by
      rcases List.mem_append.1 hy with hy | hy
      · exact (so_fit c).1 y hy
      · exact hx y hy, h.2, rfl⟩).1
  · exact (so_yes gc_nil).1
theorem allB_iff {cs : List Chk} : allB cs = true ↔ ∀ c ∈ cs, soB c = true := by unfold allB; rw [List.all_eq_true]
theorem pa_ok {cs : List Chk} {fl : Int} {x : Smp} (hx : FitS [x]) (h : PaOk cs) : PaOk (ptL cs fl x) := by
  by_cases hc : cdF cs fl x = 0
  · have ha : allB (ptL cs fl x) = true := by
      rw [allB_iff, ptL_yes hc]
      intro c hm
      rcases List.mem_or_eq_of_mem_set hm with hm | rfl
      · unfold rmL at hm
        split at hm
        · rcases List.mem_append.1 hm with hm | hm
          · exact allB_iff.1 h.all c hm
          · rw [List.mem_singleton.1 hm]; exact (so_yes gc_nil).1
        · exact allB_iff.1 h.all c hm
      · exact so_ad _ hx
    refine ⟨?_, fun c hm => so_size (allB_iff.1 ha c hm), ha⟩
    rw [ptL_yes hc, List.length_set]
    exact rm_len6 h.len hc
  · rw [ptL_no hc]; exact h
theorem paK_ok {cs : List Chk} {fl : Int} {l : List Smp} (hx : FitS l) (h : PaOk cs) : ∀ k, PaOk (paK cs fl l k)
  | 0 => h
  | k + 1 => by
    by_cases hk : k < l.length
    · rw [paK_succ hk]
      exact pa_ok (fun y hy => by rw [List.mem_singleton.1 hy]; exact hx _ (List.getElem_mem hk)) (paK_ok hx h k)
    · rw [paK, dif_neg hk]; exact paK_ok hx h k
/-- What putting samples into a series answers. -/
noncomputable def aaB (cs : List Chk) (fl : Int) (l : List Smp) : Bool := gsB cs fl && decide (l.length ≤ 60)
noncomputable def aaL (cs : List Chk) (fl : Int) (l : List Smp) : List Chk := if aaB cs fl l = true then paK cs fl l l.length else []
noncomputable def aaC (cs : List Chk) (fl : Int) (l : List Smp) : List Int := if aaB cs fl l = true then pcK cs fl l l.length else []
noncomputable def aaF (cs : List Chk) (fl : Int) (l : List Smp) : Int := if aaB cs fl l = true then fl else 0
theorem gs_ok {cs : List Chk} {fl : Int} (h : gsB cs fl = true) : PaOk cs := ⟨(gs_is h).len, fun c hm => so_size (allB_iff.1 (gs_is h).all c hm), (gs_is h).all⟩
theorem aaL_len {cs : List Chk} {fl : Int} {l : List Smp} (hx : FitS l) : (aaL cs fl l).length ≤ 6 := by
  unfold aaL
  split
  · rename_i h
    unfold aaB at h
    simp only [Bool.and_eq_true] at h
    exact (paK_ok hx (gs_ok h.1) _).len
  · simp
theorem aaC_len {cs : List Chk} {fl : Int} {l : List Smp} : (aaC cs fl l).length ≤ 60 := by
  unfold aaC
  split
  · rename_i h
    unfold aaB at h
    simp only [Bool.and_eq_true, decide_eq_true_eq] at h
    rw [pcK_len (Nat.le_refl _)]; exact h.2
  · simp
theorem aaC_in {cs : List Chk} {fl : Int} {l : List Smp} : ∀ x ∈ aaC cs fl l, In64 x := by
  unfold aaC
  split
  · exact pcK_in
  · intro x h; cases h
theorem aa_yes {cs : List Chk} {fl : Int} {l : List Smp} (h : gsB cs fl = true) (h6 : l.length ≤ 60) : aaB cs fl l = true ∧ aaL cs fl l = paK cs fl l l.length ∧ aaC cs fl l = pcK cs fl l l.length ∧ aaF cs fl l = fl := by
  have e : aaB cs fl l = true := by unfold aaB; simp [h, h6]
  unfold aaL aaC aaF
  rw [if_pos e, if_pos e, if_pos e]
  exact ⟨e, rfl, rfl, rfl⟩
theorem aa_no {cs : List Chk} {fl : Int} {l : List Smp} (h : gsB cs fl = false ∨ 60 < l.length) : aaB cs fl l = false ∧ aaL cs fl l = [] ∧ aaC cs fl l = [] ∧ aaF cs fl l = 0 := by
  have e : aaB cs fl l = false := by
    unfold aaB
    rcases h with h | h
    · simp [h]
    · simp; omega
  unfold aaL aaC aaF
  rw [e]
  exact ⟨rfl, rfl, rfl, rfl⟩
end Go.Proofs.Yteiefngamccapaa
