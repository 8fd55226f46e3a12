/- Plain mathematics of sorted labels: which fault is told, and that there is just one list with those that have an Is by rising Name. Nothing of the program stands here. -/
import Derived.Test.YtpbcgfgjdimpmaaDoorMath
namespace Go.Proofs.YtpbcgfgjdimpmaaDoor

theorem less_iff (a b : ByteArray) : less a b = true ↔ a.data.toList < b.data.toList := by
  unfold less
  rw [Proofs.bytesLess_eq, Lib.toList_data, Lib.toList_data, decide_eq_true_eq]
theorem less_false (a b : ByteArray) : less a b = false ↔ b.data.toList ≤ a.data.toList := by
  rw [← Bool.not_eq_true, less_iff]
  exact List.not_lt
theorem less_irr (a : ByteArray) : less a a = false := by rw [less_false]; exact List.le_refl _
theorem less_trans {a b c : ByteArray} (h : less a b = true) (h' : less b c = true) : less a c = true := by
  rw [less_iff] at *
  exact List.lt_trans h h'
theorem less_tot {a b : ByteArray} (h : less a b = false) (h' : less b a = false) : a.data.toList = b.data.toList := by
  rw [less_false] at *
  exact List.le_antisymm h' h
theorem less_asymm {a b : ByteArray} (h : less a b = true) : less b a = false := by
  cases hb : less b a with
  | false => rfl
  | true => have := less_trans h hb; rw [less_irr] at this; cases this
theorem less_of {a b : ByteArray} (h : less b a = false) (hne : a.data.toList ≠ b.data.toList) : less a b = true := by
  cases ha : less a b with
  | true => rfl
  | false => exact absurd (less_tot ha h) hne
theorem less_same {a b : ByteArray} (h : a.data.toList = b.data.toList) (c : ByteArray) : less a c = less b c ∧ less c a = less c b := by
  unfold less
  rw [Lib.toList_data, Lib.toList_data, Lib.toList_data, h]
  exact ⟨rfl, rfl⟩

def hasIs (x : Lab) : Bool := decide (0 < x.2.size)
def names (l : List Lab) : List (List UInt8) := l.map fun x => x.1.data.toList
/-- What can be told of each label alone. -/
def partC (l : List Lab) : Nat := if 12 < l.length then 1 else bif l.all (fun x => nameB x.1) then (bif l.all (fun x => wordB x.2) then 0 else 3) else 2
/-- The first fault of labels in any order. -/
def codeB (l : List Lab) : Nat := if partC l ≠ 0 then partC l else if (names l).Nodup then (if 6 < (l.filter hasIs).length then 5 else 0) else 4

def strict (R : List Lab) : Prop := R.Pairwise fun x y => less x.1 y.1 = true
def SortRes (l R : List Lab) : Prop := R.Perm (l.filter hasIs) ∧ strict R
def ResS (l R : List Lab) : Prop := (codeB l = 0 → SortRes l R) ∧ (codeB l ≠ 0 → R = [])

theorem SortRes.unique {l R R' : List Lab} (h : SortRes l R) (h' : SortRes l R') : R = R' :=
  List.Perm.eq_of_pairwise (le := fun (x y : Lab) => less x.1 y.1 = true) (fun x y _ _ h1 h2 => by have := less_asymm h1; rw [this] at h2; cases h2) h.2 h'.2 (h.1.trans h'.1.symm)
theorem ResS.unique {l R R' : List Lab} (h : ResS l R) (h' : ResS l R') : R = R' := by
  by_cases hc : codeB l = 0
  · exact (h.1 hc).unique (h'.1 hc)
  · rw [h.2 hc, h'.2 hc]

theorem strict_iff (R : List Lab) : strict R ↔ ∀ i j (hi : i < R.length) (hj : j < R.length), i < j → less R[i].1 R[j].1 = true := List.pairwise_iff_getElem
theorem strict_nodup {R : List Lab} (h : strict R) : (names R).Nodup := by
  unfold names
  rw [List.Nodup, List.pairwise_map]
  refine h.imp ?_
  intro a b hab he
  have := (less_same he b.1).1
  rw [hab, less_irr] at this
  cases this

/-- Names that do not fall, and differ from the one behind, rise. -/
theorem strict_of_adj {S : List Lab} (hS : ∀ i j (hi : i < S.length) (hj : j < S.length), i < j → less S[j].1 S[i].1 = false)
    (hA : ∀ i (h : i + 1 < S.length), S[i].1.data.toList ≠ S[i + 1].1.data.toList) : strict S := by
  rw [strict_iff]
  intro i j hi hj hij
  refine less_of (hS i j hi hj hij) fun he => ?_
  have h1 : i + 1 < S.length := by omega
  by_cases e : i + 1 = j
  · subst e; exact hA i h1 he
  · have a := hS i (i + 1) hi h1 (by omega)
    have b := hS (i + 1) j h1 hj (by omega)
    rw [← (less_same he S[i + 1].1).1] at b
    exact hA i h1 (less_tot b a)
theorem adj_not_nodup {S : List Lab} {i : Nat} (h : i + 1 < S.length) (he : S[i].1.data.toList = S[i + 1].1.data.toList) : ¬ (names S).Nodup := by
  intro hn
  unfold names at hn
  rw [List.Nodup, List.pairwise_map, List.pairwise_iff_getElem] at hn
  exact hn i (i + 1) (by omega) h (by omega) he

theorem names_perm {S l : List Lab} (h : S.Perm l) : (names S).Nodup ↔ (names l).Nodup := (h.map _).nodup_iff
theorem filter_strict {S : List Lab} (h : strict S) : strict (S.filter hasIs) := h.sublist List.filter_sublist
theorem sortRes_of {S l : List Lab} (hp : S.Perm l) (hs : strict S) : SortRes l (S.filter hasIs) := ⟨hp.filter _, filter_strict hs⟩

theorem partC_long {l : List Lab} (h : 12 < l.length) : partC l = 1 := by simp [partC, h]
theorem partC_name {l : List Lab} (h : ¬ 12 < l.length) (h2 : l.all (fun x => nameB x.1) = false) : partC l = 2 := by simp only [partC, h, if_false, h2]; rfl
theorem partC_word {l : List Lab} (h : ¬ 12 < l.length) (h2 : l.all (fun x => nameB x.1) = true) (h3 : l.all (fun x => wordB x.2) = false) : partC l = 3 := by simp only [partC, h, if_false, h2, h3]; rfl
theorem partC_ok {l : List Lab} (h : ¬ 12 < l.length) (h2 : l.all (fun x => nameB x.1) = true) (h3 : l.all (fun x => wordB x.2) = true) : partC l = 0 := by simp only [partC, h, if_false, h2, h3]; rfl
theorem partC_zero {l : List Lab} (h : partC l = 0) : l.length ≤ 12 ∧ l.all (fun x => nameB x.1) = true ∧ l.all (fun x => wordB x.2) = true := by
  by_cases h1 : 12 < l.length
  · rw [partC_long h1] at h; cases h
  · cases h2 : l.all (fun x => nameB x.1) with
    | false => rw [partC_name h1 h2] at h; cases h
    | true =>
      cases h3 : l.all (fun x => wordB x.2) with
      | false => rw [partC_word h1 h2 h3] at h; cases h
      | true => exact ⟨by omega, rfl, rfl⟩
theorem codeB_part {l : List Lab} (h : partC l ≠ 0) : codeB l = partC l := by rw [codeB, if_pos h]
theorem codeB_twice {l : List Lab} (h : partC l = 0) (h2 : ¬ (names l).Nodup) : codeB l = 4 := by rw [codeB, if_neg (by simpa using h), if_neg h2]
theorem codeB_full {l : List Lab} (h : partC l = 0) (h2 : (names l).Nodup) (h3 : 6 < (l.filter hasIs).length) : codeB l = 5 := by rw [codeB, if_neg (by simpa using h), if_pos h2, if_pos h3]
theorem codeB_ok {l : List Lab} (h : partC l = 0) (h2 : (names l).Nodup) (h3 : ¬ 6 < (l.filter hasIs).length) : codeB l = 0 := by rw [codeB, if_neg (by simpa using h), if_pos h2, if_neg h3]

/-- All of the first k are as said. -/
def allTo (p : Lab → Bool) (l : List Lab) (k : Nat) : Prop := ∀ i (h : i < l.length), i < k → p l[i] = true
theorem allTo_zero (p : Lab → Bool) (l : List Lab) : allTo p l 0 := fun _ _ h => absurd h (by omega)
theorem allTo_succ {p : Lab → Bool} {l : List Lab} {k : Nat} (h : allTo p l k) (hk : k < l.length) (h2 : p l[k] = true) : allTo p l (k + 1) := fun i hi hik => by
  by_cases e : i = k
  · subst e; exact h2
  · exact h i hi (by omega)
theorem allTo_all {p : Lab → Bool} {l : List Lab} (h : allTo p l l.length) : l.all p = true := by
  rw [List.all_eq_true]
  intro x hx
  obtain ⟨i, hi, rfl⟩ := List.getElem_of_mem hx
  exact h i hi hi
theorem all_not {p : Lab → Bool} {l : List Lab} {k : Nat} (hk : k < l.length) (h : p l[k] = false) : l.all p = false := by
  rw [List.all_eq_false]
  exact ⟨_, List.getElem_mem hk, by rw [h]; simp⟩
end Go.Proofs.YtpbcgfgjdimpmaaDoor
