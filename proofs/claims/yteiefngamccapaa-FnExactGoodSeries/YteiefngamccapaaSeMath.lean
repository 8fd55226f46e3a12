/- Mathematics of series: whether one is good, and the samples that its chunks hold. No program is spoken of. -/
import Derived.Test.YteiefngamccapaaSmMath
namespace Go.Proofs.Yteiefngamccapaa

/-- The samples of chunks, one behind the other. -/
noncomputable def serL (cs : List Chk) : List Smp := cs.flatMap soL
noncomputable def allB (cs : List Chk) : Bool := cs.all soB
theorem serL_nil : serL [] = [] := rfl
theorem serL_snoc {cs : List Chk} {k : Nat} (h : k < cs.length) : serL (cs.take (k + 1)) = serL (cs.take k) ++ soL cs[k] := by
  unfold serL
  rw [List.take_succ_eq_append_getElem h, List.flatMap_append]
  simp
theorem serL_all (cs : List Chk) : serL (cs.take cs.length) = serL cs := by rw [List.take_length]
theorem serL_fit (cs : List Chk) : FitS (serL cs) := fun x hx => by
  unfold serL at hx
  rw [List.mem_flatMap] at hx
  obtain ⟨c, _, h⟩ := hx
  exact (so_fit c).1 x h
theorem serL_len : ∀ cs : List Chk, (serL cs).length ≤ cs.length * 8
  | [] => by simp [serL]
  | c :: cs => by
    have h1 := serL_len cs
    have h2 := (so_fit c).2
    unfold serL at h1 ⊢
    rw [List.flatMap_cons, List.length_append, List.length_cons]
    omega
theorem serL_take_len {cs : List Chk} (k : Nat) (h : cs.length ≤ 6) : (serL (cs.take k)).length ≤ 48 := by
  have := serL_len (cs.take k)
  rw [List.length_take] at this
  omega
def allTo (cs : List Chk) (k : Nat) : Prop := ∀ i (h : i < cs.length), i < k → soB cs[i] = true
theorem allTo_zero (cs : List Chk) : allTo cs 0 := fun i _ h => absurd h (by omega)
theorem allTo_succ {cs : List Chk} {k : Nat} (h : allTo cs k) (hk : ∀ h : k < cs.length, soB cs[k] = true) : allTo cs (k + 1) := fun i hi hik => by
  by_cases e : i = k
  · subst e; exact hk hi
  · exact h i hi (by omega)
theorem allB_yes {cs : List Chk} (h : allTo cs cs.length) : allB cs = true := by
  unfold allB
  rw [List.all_eq_true]
  intro c hc
  obtain ⟨i, hi, rfl⟩ := List.getElem_of_mem hc
  exact h i hi hi
theorem allB_at {cs : List Chk} (h : allB cs = true) {k : Nat} (hk : k < cs.length) : soB cs[k] = true := by
  unfold allB at h
  rw [List.all_eq_true] at h
  exact h _ (List.getElem_mem hk)
theorem allB_no {cs : List Chk} {k : Nat} (hk : k < cs.length) (h : soB cs[k] = false) : allB cs = false := by
  cases ha : allB cs with
  | false => rfl
  | true => rw [allB_at ha hk] at h; cases h

/-- How many the chunk at a place says that it holds. -/
def mF (cs : List Chk) (i : Nat) : Int := (cs[i]?.getD zeroC).2.1
theorem mF_at {cs : List Chk} {i : Nat} (h : i < cs.length) : cs[i].2.1 = mF cs i := by simp [mF, h]
/-- A chunk other than the last one is empty. -/
def emB (cs : List Chk) : Bool := (List.range (cs.length - 1)).any fun i => decide (mF cs i = 0)
def emTo (cs : List Chk) (k : Nat) : Prop := ∀ i, i < k → i + 1 < cs.length → mF cs i ≠ 0
theorem emTo_zero (cs : List Chk) : emTo cs 0 := fun i h => absurd h (by omega)
theorem emTo_succ {cs : List Chk} {k : Nat} (h : emTo cs k) (hk : k + 1 < cs.length → mF cs k ≠ 0) : emTo cs (k + 1) := fun i hi hl => by
  by_cases e : i = k
  · subst e; exact hk hl
  · exact h i (by omega) hl
theorem emB_no {cs : List Chk} {k : Nat} (h : emTo cs k) (hk : cs.length ≤ k + 1) : emB cs = false := by
  unfold emB
  rw [List.any_eq_false]
  intro i hi
  rw [List.mem_range] at hi
  simpa using h i (by omega) (by omega)
theorem emB_yes {cs : List Chk} {i : Nat} (h : i + 1 < cs.length) (hm : mF cs i = 0) : emB cs = true := by
  unfold emB
  rw [List.any_eq_true]
  exact ⟨i, by rw [List.mem_range]; omega, by simpa using hm⟩
theorem emB_at {cs : List Chk} (h : emB cs = false) {i : Nat} (hi : i + 1 < cs.length) : mF cs i ≠ 0 := fun e => by rw [emB_yes hi e] at h; cases h

/-- Whether a series is good. -/
noncomputable def gsB (cs : List Chk) (fl : Int) : Bool := decide (cs.length ≤ 6) && (decide (-1000000 ≤ fl) && decide (fl ≤ 1000000)) && !emB cs && allB cs && goodS (serL cs) && (decide ((serL cs).length = 0) || decide (fl ≤ tF (serL cs) 0))
theorem gs_long {cs : List Chk} {fl : Int} (h : 6 < cs.length) : gsB cs fl = false := by
  unfold gsB; rw [decide_eq_false (by omega)]; simp
theorem gs_floor {cs : List Chk} {fl : Int} (h : (decide (-1000000 ≤ fl) && decide (fl ≤ 1000000)) = false) : gsB cs fl = false := by
  unfold gsB; rw [h]; simp
theorem gs_em {cs : List Chk} {fl : Int} (h : emB cs = true) : gsB cs fl = false := by unfold gsB; rw [h]; simp
theorem gs_all {cs : List Chk} {fl : Int} (h : allB cs = false) : gsB cs fl = false := by unfold gsB; rw [h]; simp
theorem gs_good {cs : List Chk} {fl : Int} (h : goodS (serL cs) = false) : gsB cs fl = false := by unfold gsB; rw [h]; simp
theorem gs_first {cs : List Chk} {fl : Int} (h : 0 < (serL cs).length) (h2 : tF (serL cs) 0 < fl) : gsB cs fl = false := by
  unfold gsB; rw [decide_eq_false (by omega : ¬ (serL cs).length = 0), decide_eq_false (by omega : ¬ fl ≤ tF (serL cs) 0)]; simp
theorem gs_yes {cs : List Chk} {fl : Int} (h1 : cs.length ≤ 6) (h2 : (decide (-1000000 ≤ fl) && decide (fl ≤ 1000000)) = true) (h3 : emB cs = false) (h4 : allB cs = true) (h5 : goodS (serL cs) = true) (h6 : (serL cs).length = 0 ∨ fl ≤ tF (serL cs) 0) : gsB cs fl = true := by
  unfold gsB; rw [decide_eq_true h1, h2, h3, h4, h5]
  rcases h6 with h | h
  · rw [decide_eq_true h]; rfl
  · rw [decide_eq_true h]; simp
structure GS (cs : List Chk) (fl : Int) : Prop where
  len : cs.length ≤ 6
  lo : -1000000 ≤ fl
  hi : fl ≤ 1000000
  em : emB cs = false
  all : allB cs = true
  good : goodS (serL cs) = true
  first : (serL cs).length = 0 ∨ fl ≤ tF (serL cs) 0
theorem gs_is {cs : List Chk} {fl : Int} (h : gsB cs fl = true) : GS cs fl := by
  unfold gsB at h
  simp only [Bool.and_eq_true, Bool.or_eq_true, decide_eq_true_eq, Bool.not_eq_true'] at h
  obtain ⟨⟨⟨⟨⟨h1, h2, h3⟩, h4⟩, h5⟩, h6⟩, h7⟩ := h
  exact ⟨h1, h2, h3, h4, h5, h6, h7⟩
theorem gs_of {cs : List Chk} {fl : Int} (h : GS cs fl) : gsB cs fl = true := gs_yes h.len (by simp [h.lo, h.hi]) h.em h.all h.good h.first
/-- What a chunk that holds samples says of them. -/
theorem so_many {c : Chk} (h : soB c = true) : c.2.1 = (soL c).length := by
  have hg := so_is h
  rcases Nat.eq_zero_or_pos (soL c).length with h0 | h0
  · have : soL c = [] := List.eq_nil_of_length_eq_zero h0
    rw [h0]
    rw [this] at hg
    rw [← hg.2.2]; rfl
  · conv => lhs; rw [← hg.2.2, pkC_some h0]
theorem so_last {c : Chk} (h : soB c = true) (h0 : 0 < (soL c).length) : c.2.2.2 = tF (soL c) ((soL c).length - 1) := by
  have hg := so_is h
  conv => lhs; rw [← hg.2.2, pkC_some h0]
end Go.Proofs.Yteiefngamccapaa
