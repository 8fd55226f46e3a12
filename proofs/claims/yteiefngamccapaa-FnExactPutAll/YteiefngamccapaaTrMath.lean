/- Mathematics of truncating a series: which chunks stay, and what is left of them. No program is spoken of. -/
import Derived.Test.YteiefngamccapaaK14
import Derived.Test.YteiefngamccapaaChMath2

namespace Go.Proofs.Yteiefngamccapaa

/-- A chunk stays if it is empty or a sample of it is not too early. -/
noncomputable def keepB (t : Int) (c : Chk) : Bool := decide ((soL c).length = 0) || decide (cutK (soL c) t < (soL c).length)
noncomputable def trL (cs : List Chk) (t : Int) : List Chk := (cs.filter (keepB t)).map (fun c => ctB c t)
theorem cutK_le (l : List Smp) (t : Int) : cutK l t ≤ l.length := by
  unfold cutK
  exact List.Sublist.length_le (List.takeWhile_sublist _)
theorem good_rise {l : List Smp} (h : goodS l = true) : ∀ {i j : Nat}, i ≤ j → j < l.length → tF l i ≤ tF l j := by
  intro i j hij hj
  induction j with
  | zero => obtain rfl : i = 0 := by omega
            exact Int.le_refl _
  | succ j ih =>
    by_cases e : i = j + 1
    · subst e; exact Int.le_refl _
    · have h1 := ih (by omega) (by omega)
      rw [goodS_iff] at h
      have h2 := (h j (by omega)).2 hj
      rw [tF_at (by omega : j < l.length), tF_at hj] at h2
      omega
/-- All are ahead of the time if the last one is. -/
theorem cutK_last {l : List Smp} {t : Int} (hg : goodS l = true) (h0 : 0 < l.length) : (cutK l t < l.length) ↔ t ≤ tF l (l.length - 1) := by
  constructor
  · intro h
    by_cases ht : t ≤ tF l (l.length - 1)
    · exact ht
    · have hall : CK l t l.length := ⟨Nat.le_refl _, fun i hi => by have := good_rise hg (show i ≤ l.length - 1 by omega) (by omega); omega⟩
      have := ck_is hall (.inl rfl)
      omega
  · intro h
    have h1 := cutK_le l t
    by_cases e : cutK l t = l.length
    · exfalso
      have h2 : ∀ (l : List Smp), cutK l t = l.length → ∀ i, i < l.length → tF l i < t := by
        intro l
        induction l with
        | nil => intro _ i hi; simp at hi
        | cons x l ih =>
          intro he i hi
          unfold cutK at he ih
          by_cases hx : x.1 < t
          · rw [List.takeWhile_cons_of_pos (by simpa using hx), List.length_cons, List.length_cons] at he
            cases i with
            | zero => simpa [tF] using hx
            | succ i => rw [tF_cons]; exact ih (by omega) i (by simpa using hi)
          · rw [List.takeWhile_cons_of_neg (by simpa using hx)] at he
            simp at he
      have := h2 l e (l.length - 1) (by omega)
      omega
    · omega
theorem ctB_many (c : Chk) (t : Int) : (ctB c t).2.1 = (((soL c).length - cutK (soL c) t : Nat) : Int) := by
  unfold ctB
  have hl : ((soL c).drop (cutK (soL c) t)).length = (soL c).length - cutK (soL c) t := List.length_drop
  rcases Nat.eq_zero_or_pos ((soL c).length - cutK (soL c) t) with h0 | h0
  · rw [List.eq_nil_of_length_eq_zero (hl.trans h0), pkC_nil, h0]; rfl
  · rw [pkC_some (by omega)]
    simp only
    rw [hl]
theorem keep_prog {c : Chk} {t : Int} (h : soB c = true) : keepB t c = true ↔ (0 < (ctB c t).2.1 ∨ c.2.1 = 0) := by
  unfold keepB
  rw [ctB_many c t, so_many h]
  simp only [Bool.or_eq_true, decide_eq_true_eq]
  have := cutK_le (soL c) t
  omega
theorem keep_model {c : Chk} {t : Int} (h : soB c = true) : keepB t c = true ↔ ¬ (0 < c.2.1 ∧ c.2.2.2 < t) := by
  unfold keepB
  rw [so_many h]
  simp only [Bool.or_eq_true, decide_eq_true_eq]
  rcases Nat.eq_zero_or_pos (soL c).length with h0 | h0
  · constructor
    · intro _ h2; omega
    · intro _; exact .inl h0
  · have hg := (pkB_fit (so_is h).2.1).2
    rw [cutK_last hg h0, so_last h h0]
    omega
theorem tr_yes {cs : List Chk} {t : Int} {k : Nat} (hk : k < cs.length) (h : keepB t cs[k] = true) : trL (cs.take (k + 1)) t = trL (cs.take k) t ++ [ctB cs[k] t] := by
  unfold trL
  rw [List.take_succ_eq_append_getElem hk, List.filter_append, List.filter_cons_of_pos h, List.filter_nil, List.map_append, List.map_cons, List.map_nil]
theorem tr_no {cs : List Chk} {t : Int} {k : Nat} (hk : k < cs.length) (h : ¬ keepB t cs[k] = true) : trL (cs.take (k + 1)) t = trL (cs.take k) t := by
  unfold trL
  rw [List.take_succ_eq_append_getElem hk, List.filter_append, List.filter_cons_of_neg h, List.filter_nil, List.append_nil]
theorem tr_len (cs : List Chk) (t : Int) : (trL cs t).length ≤ cs.length := by
  unfold trL
  rw [List.length_map]
  exact List.length_filter_le _ _
theorem tr_take_len (cs : List Chk) (t : Int) (k : Nat) : (trL (cs.take k) t).length ≤ cs.length := by
  have h := tr_len (cs.take k) t
  rw [List.length_take] at h
  omega
noncomputable def trB (cs : List Chk) (fl t : Int) : Bool := gsB cs fl && (decide (-1000000 ≤ t) && decide (t ≤ 1000000))
noncomputable def trR (cs : List Chk) (fl t : Int) : List Chk := if trB cs fl t = true then trL cs t else []
noncomputable def trF (cs : List Chk) (fl t : Int) : Int := if trB cs fl t = true then (if fl > t then fl else t) else 0
theorem trR_no {cs : List Chk} {fl t : Int} (h : trB cs fl t = false) : trR cs fl t = [] := by unfold trR; rw [if_neg (by rw [h]; decide)]
theorem trF_no {cs : List Chk} {fl t : Int} (h : trB cs fl t = false) : trF cs fl t = 0 := by unfold trF; rw [if_neg (by rw [h]; decide)]
theorem trR_yes {cs : List Chk} {fl t : Int} (h : trB cs fl t = true) : trR cs fl t = trL cs t := by unfold trR; rw [if_pos h]
theorem trF_yes {cs : List Chk} {fl t : Int} (h : trB cs fl t = true) : trF cs fl t = (if fl > t then fl else t) := by unfold trF; rw [if_pos h]
theorem trR_len (cs : List Chk) (fl t : Int) : (trR cs fl t).length ≤ 1048576 := by
  by_cases h : trB cs fl t = true
  · have hg : gsB cs fl = true := by unfold trB at h; simp only [Bool.and_eq_true] at h; exact h.1
    have h6 := (gs_is hg).len
    have := tr_len cs t
    rw [trR_yes h]; omega
  · rw [trR_no (by simpa using h)]; simp
end Go.Proofs.Yteiefngamccapaa
