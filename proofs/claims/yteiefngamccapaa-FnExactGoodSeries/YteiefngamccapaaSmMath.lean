/- Mathematics of taking samples out of bytes: what the readers of both sides keep, and that what was packed is found again. No program is spoken of. -/
import Derived.Test.YteiefngamccapaaPkMath
namespace Go.Proofs.Yteiefngamccapaa

/-- All numbers in the bytes of samples. -/
def psS (l : List Smp) : List Nat := code (l.map (·.1)) ++ xc 0 (l.map (·.2))
theorem psS_len (l : List Smp) : (psS l).length = l.length + l.length := by unfold psS; rw [List.length_append, code_len, xc_len, List.length_map, List.length_map]
theorem psS_fit {l : List Smp} (h : FitS l) : Fit64 (psS l) := by
  intro u hu
  rcases List.mem_append.1 hu with h1 | h1
  · exact code_fit (fit_times h) u h1
  · exact xc_fit 0 _ u h1
theorem packB_ps (l : List Smp) : packB l = putV l.length ++ byS (psS l) := by
  unfold packB enc whole psS
  rw [code_len, List.length_map, byS_append, List.append_assoc]
theorem packB_front {l : List Smp} (h : FitS l) (h60 : l.length ≤ 60) : Fr (packB l) (code (l.map (·.1))) :=
  ⟨⟨_, rfl⟩, by rw [code_len, List.length_map]; exact h60, code_fit (fit_times h)⟩
theorem at_split {D : List UInt8} {m n a : Nat} {qs ps : List Nat} (h : At D m qs a) (hD : D = putV n ++ byS ps) (hle : qs.length ≤ ps.length) : m = n ∧ ps.take qs.length = qs ∧ D.drop a = byS (ps.drop qs.length) := by
  obtain ⟨h1, _, _⟩ := h
  have e := h1.symm.trans hD
  obtain ⟨e1, e2⟩ := put_front e
  have e3 : byS ps = byS (ps.take qs.length) ++ byS (ps.drop qs.length) := by rw [← byS_append, List.take_append_drop]
  rw [e3] at e2
  obtain ⟨e4, e5⟩ := byS_front (by rw [List.length_take]; omega) e2
  exact ⟨e1, e4.symm, e5⟩

/-- The last value that was read. -/
def lastX (vs : List Nat) : Nat := (0 :: xd 0 vs).getLast (by simp)
theorem lastX_nil : lastX [] = 0 := rfl
theorem lastX_snoc (vs : List Nat) (u : Nat) : lastX (vs ++ [u]) = lastX vs ^^^ flipN u := by
  unfold lastX
  have : (0 :: xd 0 (vs ++ [u])) = (0 :: xd 0 vs) ++ [(0 :: xd 0 vs).getLast (by simp) ^^^ flipN u] := by rw [xd_snoc, List.cons_append]
  simp only [this, List.getLast_append, List.getLast_singleton]
  rw [dif_neg (by simp)]
theorem lastX_lt (vs : List Nat) : lastX vs < 18446744073709551616 := by
  unfold lastX
  have := List.getLast_mem (l := 0 :: xd 0 vs) (by simp)
  rcases List.mem_cons.1 this with h | h
  · rw [h]; decide
  · exact xd_fit (by decide) _ h
/-- The samples of times and values that were read. -/
def smpOf (us vs : List Nat) : List Smp := (decode us).zip (xd 0 vs)
theorem smpOf_nil (us : List Nat) : smpOf us [] = [] := by simp [smpOf, xd]
theorem smpOf_len {us vs : List Nat} (h : vs.length ≤ us.length) : (smpOf us vs).length = vs.length := by
  unfold smpOf
  rw [List.length_zip, decode_len, xd_len]
  omega
theorem smpOf_fit {us vs : List Nat} (h : Fit64 us) : FitS (smpOf us vs) := by
  rintro ⟨a, b⟩ hx
  unfold smpOf at hx
  obtain ⟨h1, h2⟩ := List.of_mem_zip hx
  exact ⟨decode_in h a h1, xd_fit (by decide) b h2⟩
theorem smpOf_snoc {us vs : List Nat} (u : Nat) (h : vs.length < us.length) : smpOf us (vs ++ [u]) = smpOf us vs ++ [(at0 (decode us) vs.length, lastX (vs ++ [u]))] := by
  have hd : vs.length < (decode us).length := by rw [decode_len]; exact h
  have e1 : xd 0 (vs ++ [u]) = xd 0 vs ++ [lastX (vs ++ [u])] := by rw [xd_snoc, lastX_snoc]; rfl
  have e2 : decode us = (decode us).take vs.length ++ ((decode us)[vs.length] :: (decode us).drop (vs.length + 1)) := by
    rw [← List.drop_eq_getElem_cons hd, List.take_append_drop]
  have hl : ((decode us).take vs.length).length = (xd 0 vs).length := by rw [List.length_take, xd_len]; omega
  have e3 : smpOf us vs = ((decode us).take vs.length).zip (xd 0 vs) := by
    unfold smpOf
    conv => lhs; rw [e2, ← List.append_nil (xd 0 vs)]
    rw [List.zip_append hl, List.zip_nil_right, List.append_nil]
  rw [e3]
  unfold smpOf
  conv => lhs; rw [e2, e1]
  rw [List.zip_append hl, at0_get hd, List.zip_cons_cons, List.zip_nil_right]
theorem smpOf_fst {us vs : List Nat} (h : vs.length = us.length) : (smpOf us vs).map (·.1) = decode us := by
  unfold smpOf
  exact List.map_fst_zip (by rw [decode_len, xd_len]; omega)
theorem smpOf_snd {us vs : List Nat} (h : vs.length = us.length) : (smpOf us vs).map (·.2) = xd 0 vs := by
  unfold smpOf
  exact List.map_snd_zip (by rw [decode_len, xd_len]; omega)
theorem fit_left {us vs : List Nat} (h : Fit64 (us ++ vs)) : Fit64 us := fun u hu => h u (List.mem_append_left _ hu)
theorem fit_right {us vs : List Nat} (h : Fit64 (us ++ vs)) : Fit64 vs := fun u hu => h u (List.mem_append_right _ hu)
/-- All was read: the bytes are those of the samples. -/
theorem read_all {D : List UInt8} {m a : Nat} {us vs : List Nat} (h : At D m (us ++ vs) a) (hu : us.length = m) (hv : vs.length = m) (ha : D.length ≤ a) : packB (smpOf us vs) = D := by
  have hf := h.2.2
  rw [packB_ps, smpOf_len (by omega), hv]
  unfold psS
  rw [smpOf_fst (by omega), smpOf_snd (by omega), code_decode (fit_left hf), xc_xd (by decide) (fit_right hf)]
  have h1 := h.1
  rw [List.drop_eq_nil_of_le ha, List.append_nil] at h1
  exact h1.symm
/-- What was packed is found again. -/
theorem read_back {D : List UInt8} {m a : Nat} {us vs : List Nat} {l : List Smp} (h : At D m (us ++ vs) a) (hu : us.length = m) (hv : vs.length = m) (hl : FitS l) (hD : D = packB l) : smpOf us vs = l ∧ a = D.length := by
  have hlen : (us ++ vs).length = m + m := by rw [List.length_append]; omega
  have hm : m = l.length := by
    have h1 := h.1
    rw [hD, packB_ps] at h1
    exact (put_front h1).1.symm
  have hps := psS_len l
  obtain ⟨_, e2, e3⟩ := at_split h (hD.trans (packB_ps l)) (by omega)
  rw [List.take_of_length_le (by omega)] at e2
  have e4 : code (l.map (·.1)) ++ xc 0 (l.map (·.2)) = us ++ vs := e2
  obtain ⟨e5, e6⟩ := List.append_inj e4 (by rw [code_len, List.length_map]; omega)
  refine ⟨?_, ?_⟩
  · rw [← e5, ← e6]
    unfold smpOf
    rw [decode_code (fit_times hl), xd_xc (by decide) (fit_vals hl)]
    exact smp_ext (List.map_fst_zip (by simp)) (List.map_snd_zip (by simp))
  · rw [List.drop_eq_nil_of_le (by omega : (psS l).length ≤ (us ++ vs).length), byS_nil] at e3
    have h5 := congrArg List.length e3
    rw [List.length_drop, List.length_nil] at h5
    have h6 := congrArg List.length h.1
    rw [e3, List.append_nil, List.length_append] at h6
    have := h.2.1
    omega
/-- Where a value can't be read nothing was packed. -/
theorem read_stop {D : List UInt8} {m a : Nat} {us vs : List Nat} {l : List Smp} (h : At D m (us ++ vs) a) (hu : us.length = m) (hv : vs.length < m) (hr : readV (D.drop a) = none) (hl : FitS l) : D ≠ packB l := by
  intro hD
  have hlen : (us ++ vs).length = m + vs.length := by rw [List.length_append]; omega
  have hm : m = l.length := by
    have h1 := h.1
    rw [hD, packB_ps] at h1
    exact (put_front h1).1.symm
  have hps := psS_len l
  obtain ⟨_, e2, e3⟩ := at_split h (hD.trans (packB_ps l)) (by omega)
  have hlt : (us ++ vs).length < (psS l).length := by omega
  rw [List.drop_eq_getElem_cons hlt, byS_cons] at e3
  have := readV_some (D := D.drop a) (m := (psS l)[(us ++ vs).length]) ⟨psS_fit hl _ (List.getElem_mem hlt), _, e3⟩
  rw [hr] at this; cases this

/-- Samples that a chunk holds. -/
def GC (c : Chk) (l : List Smp) : Prop := FitS l ∧ pkB l = true ∧ pkC l = c
theorem GC.one {c : Chk} {l l' : List Smp} (h : GC c l) (h' : GC c l') : l = l' := pkC_one h.1 h'.1 (h.2.2.trans h'.2.2.symm)
theorem GC.len {c : Chk} {l : List Smp} (h : GC c l) : l.length ≤ 8 := (pkB_fit h.2.1).1
theorem GC.zero {l : List Smp} (h : GC zeroC l) : l = [] := pkC_one h.1 (fun x hx => by simp at hx) (by rw [h.2.2]; rfl)
theorem GC.bytes {c : Chk} {l : List Smp} (h : GC c l) (hc : c ≠ zeroC) : c.1.data.toList = packB l := by
  have hp : 0 < l.length := by
    rcases Nat.eq_zero_or_pos l.length with h0 | h0
    · exfalso
      apply hc
      rw [← h.2.2, List.eq_nil_of_length_eq_zero h0]; rfl
    · exact h0
  rw [← h.2.2, pkC_some hp]
  simp [strP]
theorem gc_nil : GC zeroC [] := ⟨fun x hx => by simp at hx, by decide, rfl⟩
open Classical in
noncomputable def soB (c : Chk) : Bool := if ∃ l, GC c l then true else false
open Classical in
noncomputable def soL (c : Chk) : List Smp := if h : ∃ l, GC c l then h.choose else []
theorem so_no {c : Chk} (h : ∀ l, ¬ GC c l) : soB c = false ∧ soL c = [] := by
  have h' : ¬ ∃ l, GC c l := fun ⟨l, hl⟩ => h l hl
  unfold soB soL
  rw [if_neg h', dif_neg h']
  exact ⟨rfl, rfl⟩
theorem so_yes {c : Chk} {l : List Smp} (h : GC c l) : soB c = true ∧ soL c = l := by
  have h' : ∃ l, GC c l := ⟨l, h⟩
  unfold soB soL
  rw [if_pos h', dif_pos h']
  exact ⟨rfl, h'.choose_spec.one h⟩
theorem so_is {c : Chk} (h : soB c = true) : GC c (soL c) := by
  by_cases h' : ∃ l, GC c l
  · obtain ⟨l, hl⟩ := h'
    rw [(so_yes hl).2]; exact hl
  · rw [(so_no fun l hl => h' ⟨l, hl⟩).1] at h; cases h
theorem so_not {c : Chk} (h : soB c = false) : soL c = [] := by
  by_cases h' : ∃ l, GC c l
  · obtain ⟨l, hl⟩ := h'
    rw [(so_yes hl).1] at h; cases h
  · exact (so_no fun l hl => h' ⟨l, hl⟩).2
theorem so_fit (c : Chk) : FitS (soL c) ∧ (soL c).length ≤ 8 := by
  by_cases h : soB c = true
  · exact ⟨(so_is h).1, (so_is h).len⟩
  · rw [so_not (by simpa using h)]
    exact ⟨fun x hx => by simp at hx, by simp⟩
end Go.Proofs.Yteiefngamccapaa
