/- Plain mathematics for the law FnLabels: sorted labels are good, sort to themselves and tell each Is; comparing is antisymmetric and nought for the same ones alone. -/
import Derived.Test.YtoelcbfbpijfcaaDoorIns
import Derived.Test.YtoelcbfbpijfcaaDoorCmpm
import Derived.Test.YtoelcbfbpijfcaaDoorIs
namespace Go.Proofs.YtoelcbfbpijfcaaDoor
open Go.RowKit Go.Deep

theorem data_eq {a b : ByteArray} (h : a.data.toList = b.data.toList) : a = b := by
  cases a; cases b; simp at h; rw [h]
theorem eq_of_beq {a b : ByteArray} (h : (a.toList == b.toList) = true) : a = b := by
  have e : a.toList = b.toList := by simpa using h
  rw [Lib.toList_data, Lib.toList_data] at e
  exact data_eq e
theorem beq_of_ne {a b : ByteArray} (h : a ≠ b) : (a.toList == b.toList) = false := by
  cases hb : a.toList == b.toList with
  | false => rfl
  | true => exact absurd (eq_of_beq hb) h
theorem cmpB_refl (a : ByteArray) : cmpB a a = 0 := by rw [cmpB_eq, less_irr]; simp
theorem cmpB_zero {a b : ByteArray} (h : cmpB a b = 0) : a = b := by
  rw [cmpB_eq] at h
  cases hl : less a b <;> rw [hl] at h
  · cases he : a.toList == b.toList <;> rw [he] at h
    · cases h
    · exact eq_of_beq he
  · cases h
theorem cmpB_swap (a b : ByteArray) : cmpB b a = -cmpB a b := by
  by_cases e : a = b
  · subst e; rw [cmpB_refl]; rfl
  have e1 := beq_of_ne e
  have e2 := beq_of_ne (fun h => e h.symm)
  rw [cmpB_eq, cmpB_eq, e1, e2]
  cases hl : less a b with
  | true => rw [less_asymm hl]; rfl
  | false => rw [less_of hl (fun h => e (data_eq h).symm)]; rfl
theorem cmpLab_refl (x : Lab) : cmpLab x x = 0 := by unfold cmpLab; rw [cmpB_refl, cmpB_refl]; rfl
theorem cmpLab_zero {x y : Lab} (h : cmpLab x y = 0) : x = y := by
  unfold cmpLab at h
  by_cases e : cmpB x.1 y.1 = 0
  · rw [e] at h
    exact Prod.ext (cmpB_zero e) (cmpB_zero h)
  · have e' : (cmpB x.1 y.1 == 0) = false := by simpa using e
    rw [e'] at h
    exact absurd h e
theorem cmpLab_swap (x y : Lab) : cmpLab y x = -cmpLab x y := by
  unfold cmpLab
  rw [cmpB_swap x.1 y.1, cmpB_swap x.2 y.2]
  by_cases e : cmpB x.1 y.1 = 0
  · rw [e]; rfl
  · have e' : (cmpB x.1 y.1 == 0) = false := by simpa using e
    have e'' : (-cmpB x.1 y.1 == 0) = false := by simpa using e
    rw [e', e'']; rfl
theorem cmpLs_refl : ∀ a : List Lab, cmpLs a a = 0
  | [] => rfl
  | x :: a => by rw [cmpLs, cmpLab_refl]; exact cmpLs_refl a
theorem cmpLs_zero : ∀ {a b : List Lab}, cmpLs a b = 0 → a = b
  | [], [], _ => rfl
  | [], _ :: _, h => by cases h
  | _ :: _, [], h => by cases h
  | x :: a, y :: b, h => by
    rw [cmpLs] at h
    by_cases e : cmpLab x y = 0
    · rw [e] at h
      rw [cmpLab_zero e, cmpLs_zero h]
    · have e' : (cmpLab x y == 0) = false := by simpa using e
      rw [e'] at h
      exact absurd h e
theorem cmpLs_swap : ∀ a b : List Lab, cmpLs b a = -cmpLs a b
  | [], [] => rfl
  | [], _ :: _ => rfl
  | _ :: _, [] => rfl
  | x :: a, y :: b => by
    rw [cmpLs, cmpLs, cmpLab_swap x y]
    by_cases e : cmpLab x y = 0
    · rw [e]; exact cmpLs_swap a b
    · have e' : (cmpLab x y == 0) = false := by simpa using e
      have e'' : (-cmpLab x y == 0) = false := by simpa using e
      rw [e', e'']; rfl
theorem okC_swap (a b : List Lab) : okC b a = okC a b := by unfold okC; exact Bool.and_comm _ _
theorem resC_swap (a b : List Lab) : resC b a = -resC a b := by
  unfold resC
  rw [okC_swap a b]
  cases okC a b
  · rfl
  · exact cmpLs_swap a b
theorem resC_zero {a b : List Lab} (h : okC a b = true) : resC a b = 0 ↔ a = b := by
  unfold resC
  rw [h]
  exact ⟨fun h => cmpLs_zero h, fun h => by subst h; exact cmpLs_refl a⟩
theorem cmpLs_range : ∀ a b : List Lab, -1 ≤ cmpLs a b ∧ cmpLs a b ≤ 1
  | [], [] => by decide
  | [], _ :: _ => by simp [cmpLs]
  | _ :: _, [] => by simp [cmpLs]
  | x :: a, y :: b => by
    rw [cmpLs]
    have h1 := cmpLab_range x y
    have h2 := cmpLs_range a b
    cases (cmpLab x y == 0)
    · exact h1
    · exact h2
theorem resC_range (a b : List Lab) : -1 ≤ resC a b ∧ resC a b ≤ 1 := by
  unfold resC
  cases okC a b
  · simp
  · exact cmpLs_range a b

theorem mem_names {l : List Lab} {x y : Lab} (hn : (names l).Nodup) (hx : x ∈ l) (hy : y ∈ l) (h : x.1 = y.1) : x = y := by
  obtain ⟨i, hi, rfl⟩ := List.getElem_of_mem hx
  obtain ⟨j, hj, rfl⟩ := List.getElem_of_mem hy
  by_cases e : i = j
  · subst e; rfl
  · exfalso
    unfold names at hn
    rw [List.Nodup, List.pairwise_map, List.pairwise_iff_getElem] at hn
    rcases Nat.lt_or_gt_of_ne e with e | e
    · exact hn i j hi hj e (by rw [h])
    · exact hn j i hj hi e (by rw [h])
theorem isL_mem : ∀ {R : List Lab} {y : Lab}, (names R).Nodup → y ∈ R → isL R y.1 = y.2
  | z :: R, y, hn, hy => by
    rw [isL]
    by_cases e : z.1 = y.1
    · have := mem_names hn (List.mem_cons_self ..) hy e
      subst this
      simp
    · rw [beq_of_ne e]
      rcases List.mem_cons.1 hy with rfl | hy
      · exact absurd rfl e
      · exact isL_mem (List.nodup_cons.1 hn).2 hy
theorem isL_none : ∀ {R : List Lab} {n : ByteArray}, (∀ y ∈ R, y.1 ≠ n) → isL R n = emp
  | [], _, _ => rfl
  | z :: R, n, h => by
    rw [isL, beq_of_ne (h z (List.mem_cons_self ..))]
    exact isL_none fun y hy => h y (List.mem_cons_of_mem _ hy)
theorem parts_of {l : List Lab} (h : codeB l = 0) : partC l = 0 ∧ (names l).Nodup ∧ (l.filter hasIs).length ≤ 6 := by
  by_cases hp : partC l = 0
  · by_cases hn : (names l).Nodup
    · by_cases hf : 6 < (l.filter hasIs).length
      · rw [codeB_full hp hn hf] at h; cases h
      · exact ⟨hp, hn, by omega⟩
    · rw [codeB_twice hp hn] at h; cases h
  · rw [codeB_part hp] at h; exact absurd h hp
theorem sorted_is {l R : List Lab} (hc : codeB l = 0) (hR : SortRes l R) {x : Lab} (hx : x ∈ l) : isL R x.1 = x.2 := by
  obtain ⟨_, hn, _⟩ := parts_of hc
  by_cases hi : hasIs x = true
  · exact isL_mem (strict_nodup hR.2) (hR.1.symm.subset (List.mem_filter.2 ⟨hx, hi⟩))
  · have hz : x.2 = emp := by
      have : ¬ 0 < x.2.size := by simpa [hasIs] using hi
      apply data_eq
      have h0 : x.2.data.toList.length = 0 := by
        have : x.2.size = x.2.data.toList.length := Array.length_toList.symm
        omega
      rw [List.eq_nil_of_length_eq_zero h0]; rfl
    rw [hz]
    refine isL_none fun y hy he => ?_
    obtain ⟨hyl, hyi⟩ := List.mem_filter.1 (hR.1.subset hy)
    have := mem_names hn hyl hx he
    subst this
    exact hi hyi
theorem sorted_good {l R : List Lab} (hc : codeB l = 0) (hR : SortRes l R) : goodB R = true := by
  obtain ⟨hp, hn, hf⟩ := parts_of hc
  obtain ⟨_, h1, h2⟩ := partC_zero hp
  rw [List.all_eq_true] at h1 h2
  unfold goodB
  rw [Bool.and_eq_true, Bool.and_eq_true, decide_eq_true_eq, List.all_eq_true, rises_iff]
  refine ⟨⟨by rw [hR.1.length_eq]; exact hf, fun x hx => ?_⟩, fun j hj => (strict_iff R).1 hR.2 j (j + 1) (by omega) hj (by omega)⟩
  obtain ⟨hl, hi⟩ := List.mem_filter.1 (hR.1.subset hx)
  unfold labB
  rw [Bool.and_eq_true, Bool.and_eq_true]
  exact ⟨⟨h1 x hl, h2 x hl⟩, hi⟩
theorem sorted_again {l R : List Lab} (hc : codeB l = 0) (hR : SortRes l R) : codeB R = 0 ∧ SortRes R R := by
  obtain ⟨hp, hn, hf⟩ := parts_of hc
  obtain ⟨h0, h1, h2⟩ := partC_zero hp
  rw [List.all_eq_true] at h1 h2
  have hle : R.length ≤ 6 := by rw [hR.1.length_eq]; exact hf
  have hfil : R.filter hasIs = R := List.filter_eq_self.2 fun x hx => (List.mem_filter.1 (hR.1.subset hx)).2
  have hpR : partC R = 0 := by
    refine partC_ok (by omega) ?_ ?_
    · rw [List.all_eq_true]; exact fun x hx => h1 x (List.mem_filter.1 (hR.1.subset hx)).1
    · rw [List.all_eq_true]; exact fun x hx => h2 x (List.mem_filter.1 (hR.1.subset hx)).1
  exact ⟨codeB_ok hpR (strict_nodup hR.2) (by rw [hfil]; omega), by rw [SortRes, hfil]; exact ⟨List.Perm.refl _, hR.2⟩⟩
end Go.Proofs.YtoelcbfbpijfcaaDoor
