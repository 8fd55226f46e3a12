/- Plain mathematics of labels: which bytes a name and a word have, which lists of labels are good, and how they lie in memory, two cells each. Nothing of the program stands here. -/
import Derived.Lib.Strings
import Derived.Lib.Hide
import Derived.Laws.RangeAny
import Derived.Sort.Walk0
namespace Go.Proofs.YtpbcgfgjdimpmaaDoor

/-- A label: its Name and its Is. -/
abbrev Lab := ByteArray × ByteArray

def inName (c : Nat) : Bool := (decide (97 ≤ c) && decide (c ≤ 122)) || (decide (48 ≤ c) && decide (c ≤ 57)) || decide (c = 95)
def isDig (c : Nat) : Bool := decide (48 ≤ c) && decide (c ≤ 57)
def inWord (c : Nat) : Bool := decide (33 ≤ c) && decide (c ≤ 126) && !(decide (c = 34) || decide (c = 44) || decide (c = 123) || decide (c = 125))

/-- All of the first k bytes are as said. -/
def upTo (p : Nat → Bool) (s : ByteArray) (k : Nat) : Prop := ∀ i (h : i < s.size), i < k → p (s[i]'h).toNat = true
/-- All bytes are as said. -/
def allB (p : Nat → Bool) (s : ByteArray) : Bool := s.data.toList.all fun c => p c.toNat

theorem allB_of {p : Nat → Bool} {s : ByteArray} (h : upTo p s s.size) : allB p s = true := by
  unfold allB
  rw [List.all_eq_true]
  intro c hc
  obtain ⟨i, hi, rfl⟩ := List.getElem_of_mem hc
  have hi' : i < s.size := by simpa using hi
  exact h i hi' hi'
theorem allB_not {p : Nat → Bool} {s : ByteArray} {k : Nat} (hk : k < s.size) (h : p (s[k]'hk).toNat = false) : allB p s = false := by
  unfold allB
  rw [List.all_eq_false]
  exact ⟨s[k]'hk, Array.mem_toList_iff.2 (Array.getElem_mem (xs := s.data) hk), by rw [h]; simp⟩
theorem upTo_zero (p : Nat → Bool) (s : ByteArray) : upTo p s 0 := fun _ _ h => absurd h (by omega)
theorem upTo_succ {p : Nat → Bool} {s : ByteArray} {k : Nat} (h : upTo p s k) (hk : k < s.size) (hp : p (s[k]'hk).toNat = true) : upTo p s (k + 1) := fun i hi hik => by
  by_cases e : i = k
  · subst e; exact hp
  · exact h i hi (by omega)

theorem inName_high {c : Nat} (h : 128 ≤ c) : inName c = false := by simp [inName]; omega
theorem inWord_high {c : Nat} (h : 128 ≤ c) : inWord c = false := by simp [inWord]; omega

def nameB (s : ByteArray) : Bool := decide (1 ≤ s.size) && decide (s.size ≤ 12) && !isDig (s.data.toList.headD 0).toNat && allB inName s
def wordB (s : ByteArray) : Bool := decide (s.size ≤ 12) && allB inWord s
def less (a b : ByteArray) : Bool := Op.bytesLess a.toList b.toList

/-- One label of good ones is good by itself. -/
def labB (x : Lab) : Bool := nameB x.1 && wordB x.2 && decide (0 < x.2.size)
/-- Names rise. -/
def rises : List Lab → Bool
  | x :: y :: l => less x.1 y.1 && rises (y :: l)
  | _ => true
def goodB (l : List Lab) : Bool := decide (l.length ≤ 6) && l.all labB && rises l

/-- How labels lie in memory. -/
def cellsOf (l : List Lab) : List Value := l.flatMap fun x => [.string x.1, .string x.2]
theorem cellsOf_length (l : List Lab) : (cellsOf l).length = l.length * 2 := by
  induction l with
  | nil => rfl
  | cons x l ih =>
    simp only [cellsOf] at ih
    simp only [cellsOf, List.flatMap_cons, List.length_append, List.length_cons, ih, List.length_nil]
    omega
theorem cellsOf_append (a b : List Lab) : cellsOf (a ++ b) = cellsOf a ++ cellsOf b := by simp [cellsOf]
theorem cellsOf_name {l : List Lab} {k : Nat} (hk : k < l.length) : (cellsOf l)[k * 2]? = some (.string l[k].1) := by
  induction l generalizing k with
  | nil => simp at hk
  | cons x l ih =>
    cases k with
    | zero => rfl
    | succ k =>
      have := ih (k := k) (by simpa using hk)
      simpa [cellsOf, Nat.succ_mul] using this
theorem cellsOf_is {l : List Lab} {k : Nat} (hk : k < l.length) : (cellsOf l)[k * 2 + 1]? = some (.string l[k].2) := by
  induction l generalizing k with
  | nil => simp at hk
  | cons x l ih =>
    cases k with
    | zero => rfl
    | succ k =>
      have := ih (k := k) (by simpa using hk)
      simpa [cellsOf, Nat.succ_mul] using this
theorem cellsOf_one {l : List Lab} : ∀ u ∈ cellsOf l, u.oneCell' = true := by
  intro u hu
  simp [cellsOf] at hu
  obtain ⟨a, b, _, rfl | rfl⟩ := hu <;> rfl

/-- The first k labels are good, and their names rise. -/
def goodTo (l : List Lab) (k : Nat) : Prop := ∀ i (h : i < l.length), i < k → labB l[i] = true ∧ ∀ j (hj : j < l.length), i = j + 1 → less l[j].1 l[i].1 = true
theorem goodTo_zero (l : List Lab) : goodTo l 0 := fun _ _ h => absurd h (by omega)
theorem goodTo_succ {l : List Lab} {k : Nat} (h : goodTo l k) (hk : k < l.length) (h1 : labB l[k] = true) (h2 : ∀ j (hj : j < l.length), k = j + 1 → less l[j].1 l[k].1 = true) : goodTo l (k + 1) := fun i hi hik => by
  by_cases e : i = k
  · subst e; exact ⟨h1, h2⟩
  · exact h i hi (by omega)
theorem rises_iff : ∀ (l : List Lab), rises l = true ↔ ∀ j (h : j + 1 < l.length), less (l[j]'(by omega)).1 (l[j + 1]'h).1 = true
  | [] => by simp [rises]
  | [_] => by simp [rises]
  | x :: y :: l => by
    rw [rises, Bool.and_eq_true, rises_iff (y :: l)]
    constructor
    · rintro ⟨h1, h2⟩ j hj
      cases j with
      | zero => exact h1
      | succ j => exact h2 j (by simpa using hj)
    · intro h
      exact ⟨h 0 (by simp), fun j hj => h (j + 1) (by simpa using hj)⟩
theorem goodB_iff (l : List Lab) : goodB l = true ↔ l.length ≤ 6 ∧ goodTo l l.length := by
  unfold goodB
  rw [Bool.and_eq_true, Bool.and_eq_true, decide_eq_true_eq, List.all_eq_true, rises_iff]
  constructor
  · rintro ⟨⟨h1, h2⟩, h3⟩
    exact ⟨h1, fun i hi _ => ⟨h2 _ (List.getElem_mem hi), fun j hj e => by subst e; exact h3 j hi⟩⟩
  · rintro ⟨h1, h2⟩
    refine ⟨⟨h1, fun x hx => ?_⟩, fun j hj => (h2 (j + 1) hj hj).2 j (by omega) rfl⟩
    obtain ⟨i, hi, rfl⟩ := List.getElem_of_mem hx
    exact (h2 i hi hi).1
theorem goodB_of {l : List Lab} (h : goodTo l l.length) : goodB l = decide (l.length ≤ 6) := by
  rw [Bool.eq_iff_iff, goodB_iff, decide_eq_true_eq]
  exact ⟨fun h' => h'.1, fun h' => ⟨h', h⟩⟩
theorem goodB_long {l : List Lab} (h : 6 < l.length) : goodB l = false := by
  rw [← Bool.not_eq_true, goodB_iff]
  omega
theorem goodB_lab {l : List Lab} {k : Nat} (hk : k < l.length) (h : labB l[k] = false) : goodB l = false := by
  rw [← Bool.not_eq_true, goodB_iff]
  rintro ⟨_, h2⟩
  rw [(h2 k hk hk).1] at h
  cases h
theorem goodB_less {l : List Lab} {j : Nat} (hk : j + 1 < l.length) (h : less (l[j]'(by omega)).1 l[j + 1].1 = false) : goodB l = false := by
  rw [← Bool.not_eq_true, goodB_iff]
  rintro ⟨_, h2⟩
  rw [(h2 (j + 1) hk hk).2 j (by omega) rfl] at h
  cases h
theorem labB_iff (x : Lab) : labB x = true ↔ nameB x.1 = true ∧ wordB x.2 = true ∧ 0 < x.2.size := by
  unfold labB
  rw [Bool.and_eq_true, Bool.and_eq_true, decide_eq_true_eq, and_assoc]
theorem labB_no {x : Lab} (h : nameB x.1 = false ∨ wordB x.2 = false ∨ x.2.size = 0) : labB x = false := by
  rw [← Bool.not_eq_true, labB_iff]
  rintro ⟨h1, h2, h3⟩
  rcases h with h | h | h
  · rw [h] at h1; cases h1
  · rw [h] at h2; cases h2
  · omega
end Go.Proofs.YtpbcgfgjdimpmaaDoor
