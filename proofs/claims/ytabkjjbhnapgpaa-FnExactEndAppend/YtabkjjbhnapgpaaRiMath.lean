/- Mathematics of lists of references: good ones, and what is in both, in the first alone, in either. No program is spoken of. -/
import Derived.Lib.Hide
namespace Go.Proofs.Ytabkjjbhnapgpaa

def In64 (z : Int) : Prop := -9223372036854775808 ≤ z ∧ z ≤ 9223372036854775807
def at0 (l : List Int) (i : Nat) : Int := l.getD i 0
theorem at0_get {l : List Int} {k : Nat} (hk : k < l.length) : at0 l k = l[k] := by simp [at0, List.getD, hk]
theorem at0_mem {l : List Int} {k : Nat} (hk : k < l.length) : at0 l k ∈ l := by rw [at0_get hk]; exact List.getElem_mem hk
theorem at0_in {l : List Int} (h : ∀ x ∈ l, In64 x) (i : Nat) : In64 (at0 l i) := by
  by_cases hi : i < l.length
  · exact h _ (at0_mem hi)
  · have : at0 l i = 0 := by simp [at0, List.getD, hi]
    rw [this]; unfold In64; omega
/-- References that rise, that lie within bounds, that are good. -/
def upR (l : List Int) : Prop := ∀ k, k + 1 < l.length → at0 l k < at0 l (k + 1)
def inR (l : List Int) : Prop := ∀ k, k < l.length → 0 ≤ at0 l k ∧ at0 l k ≤ 999
def GoodR (l : List Int) : Prop := l.length ≤ 20 ∧ inR l ∧ upR l
open Classical in
noncomputable def goodR (l : List Int) : Bool := decide (GoodR l)
open Classical in
theorem goodR_yes {l : List Int} (h : GoodR l) : goodR l = true := by unfold goodR; exact decide_eq_true h
open Classical in
theorem goodR_no {l : List Int} (h : ¬ GoodR l) : goodR l = false := by unfold goodR; exact decide_eq_false h
open Classical in
theorem goodR_is {l : List Int} (h : goodR l = true) : GoodR l := by unfold goodR at h; exact of_decide_eq_true h
theorem goodR_len {l : List Int} (h : ¬ l.length ≤ 20) : goodR l = false := goodR_no fun g => h g.1
theorem goodR_out {l : List Int} {k : Nat} (hk : k < l.length) (h : at0 l k < 0 ∨ 999 < at0 l k) : goodR l = false := goodR_no fun g => by have := g.2.1 k hk; omega
theorem goodR_flat {l : List Int} {k : Nat} (hk : k + 1 < l.length) (h : at0 l (k + 1) ≤ at0 l k) : goodR l = false := goodR_no fun g => by have := g.2.2 k hk; omega
theorem upR_lt {l : List Int} (h : upR l) : ∀ {i j : Nat}, i < j → j < l.length → at0 l i < at0 l j := by
  intro i j hij hj
  induction j with
  | zero => omega
  | succ j ih =>
    have h1 := h j hj
    by_cases e : i = j
    · subst e; exact h1
    · have := ih (by omega) (by omega)
      omega
theorem upR_cons {x : Int} {l : List Int} : upR (x :: l) ↔ (∀ y ∈ l, x < y) ∧ upR l := by
  constructor
  · intro h
    refine ⟨fun y hy => ?_, fun k hk => ?_⟩
    · obtain ⟨j, hj, rfl⟩ := List.getElem_of_mem hy
      have := upR_lt h (i := 0) (j := j + 1) (by omega) (by simpa using hj)
      rw [at0_get (by simp), at0_get (by simpa using hj)] at this
      simpa using this
    · have := h (k + 1) (by simpa using hk)
      simpa [at0] using this
  · rintro ⟨h1, h2⟩ k hk
    cases k with
    | zero =>
      cases l with
      | nil => simp at hk
      | cons y l => simpa [at0] using h1 y (List.mem_cons_self ..)
    | succ k =>
      have := h2 k (by simpa using hk)
      simpa [at0] using this
theorem upR_nil : upR [] := fun k hk => by simp at hk
/-- Two lists that rise and have the same members are one. -/
theorem upR_ext : ∀ {a b : List Int}, upR a → upR b → (∀ x, x ∈ a ↔ x ∈ b) → a = b
  | [], [], _, _, _ => rfl
  | [], y :: b, _, _, h => by have := (h y).2 (List.mem_cons_self ..); simp at this
  | x :: a, [], _, _, h => by have := (h x).1 (List.mem_cons_self ..); simp at this
  | x :: a, y :: b, ha, hb, h => by
    obtain ⟨a1, a2⟩ := upR_cons.1 ha
    obtain ⟨b1, b2⟩ := upR_cons.1 hb
    have exy : x = y := by
      have hx := (h x).1 (List.mem_cons_self ..)
      have hy := (h y).2 (List.mem_cons_self ..)
      rcases List.mem_cons.1 hx with e | e
      · exact e
      rcases List.mem_cons.1 hy with e' | e'
      · exact e'.symm
      have := b1 x e; have := a1 y e'
      omega
    subst exy
    rw [upR_ext a2 b2 fun z => by
      have hz := h z
      constructor
      · intro hm
        have hne := a1 z hm
        rcases List.mem_cons.1 (hz.1 (List.mem_cons_of_mem _ hm)) with e | e
        · omega
        · exact e
      · intro hm
        have hne := b1 z hm
        rcases List.mem_cons.1 (hz.2 (List.mem_cons_of_mem _ hm)) with e | e
        · omega
        · exact e]
theorem upR_filter (p : Int → Bool) : ∀ {l : List Int}, upR l → upR (l.filter p)
  | [], _ => by simpa using upR_nil
  | x :: l, h => by
    obtain ⟨h1, h2⟩ := upR_cons.1 h
    have ih := upR_filter p h2
    rw [List.filter_cons]
    split
    · exact upR_cons.2 ⟨fun y hy => h1 y (List.mem_filter.1 hy).1, ih⟩
    · exact ih
/-- Those of the first list that the second one has (h), or has not. -/
def siftR (a b : List Int) (h : Bool) : List Int := a.filter fun x => decide (x ∈ b) == h
theorem siftR_len (a b : List Int) (h : Bool) : (siftR a b h).length ≤ a.length := List.length_filter_le ..
theorem siftR_mem {a b : List Int} {h : Bool} {x : Int} : x ∈ siftR a b h ↔ x ∈ a ∧ decide (x ∈ b) = h := by unfold siftR; rw [List.mem_filter]; simp
theorem take_snoc {l : List Int} {k : Nat} (hk : k < l.length) : l.take (k + 1) = l.take k ++ [at0 l k] := by
  rw [List.take_succ_eq_append_getElem hk, at0_get hk]
theorem sift_yes {a b : List Int} {h : Bool} {k : Nat} (hk : k < a.length) (hx : decide (at0 a k ∈ b) = h) : siftR (a.take (k + 1)) b h = siftR (a.take k) b h ++ [at0 a k] := by
  unfold siftR; rw [take_snoc hk, List.filter_append]; simp [hx]
theorem sift_no {a b : List Int} {h : Bool} {k : Nat} (hk : k < a.length) (hx : decide (at0 a k ∈ b) ≠ h) : siftR (a.take (k + 1)) b h = siftR (a.take k) b h := by
  unfold siftR; rw [take_snoc hk, List.filter_append]; simp [hx]
theorem sift_all (a b : List Int) (h : Bool) : siftR (a.take a.length) b h = siftR a b h := by rw [List.take_length]
/-- What a search by halves comes to. -/
theorem srch_at {l : List Int} {x : Int} {i : Nat} (h1 : ∀ t, t < i → at0 l t < x) (h2 : ∀ t, i ≤ t → t < l.length → x ≤ at0 l t) (hup : upR l) : x ∈ l ↔ i < l.length ∧ at0 l i = x := by
  constructor
  · intro hm
    obtain ⟨j, hj, e⟩ := List.getElem_of_mem hm
    rw [← at0_get hj] at e
    have hij : i ≤ j := by
      by_cases hlt : j < i
      · have := h1 j hlt; omega
      · omega
    have hi : i < l.length := by omega
    refine ⟨hi, ?_⟩
    have h3 := h2 i (Nat.le_refl _) hi
    by_cases e' : i = j
    · subst e'; exact e
    · have := upR_lt hup (i := i) (j := j) (by omega) hj; omega
  · rintro ⟨hi, e⟩
    rw [← e]; exact at0_mem hi
/-- Is x among the first k? -/
theorem has_take {l : List Int} {x : Int} {k : Nat} (h : ∀ t, t < k → at0 l t ≠ x) (hk : l.length ≤ k) : ¬ x ∈ l := fun hm => by
  obtain ⟨j, hj, e⟩ := List.getElem_of_mem hm
  rw [← at0_get hj] at e
  exact h j (by omega) e
/-- A reference put to its place, once. -/
def putR (l : List Int) (n : Int) : List Int := if n ∈ l then l else l.filter (fun x => decide (x < n)) ++ n :: l.filter (fun x => decide (n < x))
theorem putR_mem {l : List Int} {n x : Int} : x ∈ putR l n ↔ x ∈ l ∨ x = n := by
  unfold putR; split
  · rename_i h
    constructor
    · exact .inl
    · rintro (h' | rfl)
      · exact h'
      · exact h
  · rw [List.mem_append, List.mem_cons, List.mem_filter, List.mem_filter]
    constructor
    · rintro (⟨h, _⟩ | rfl | ⟨h, _⟩)
      · exact .inl h
      · exact .inr rfl
      · exact .inl h
    · rintro (h | rfl)
      · rcases Int.lt_trichotomy x n with e | e | e
        · exact .inl ⟨h, by simpa using e⟩
        · exact .inr (.inl e)
        · exact .inr (.inr ⟨h, by simpa using e⟩)
      · exact .inr (.inl rfl)
theorem upR_append : ∀ {a b : List Int}, upR a → upR b → (∀ x ∈ a, ∀ y ∈ b, x < y) → upR (a ++ b)
  | [], b, _, hb, _ => hb
  | x :: a, b, ha, hb, h => by
    obtain ⟨a1, a2⟩ := upR_cons.1 ha
    refine upR_cons.2 ⟨fun y hy => ?_, upR_append a2 hb fun x hx y hy => h x (List.mem_cons_of_mem _ hx) y hy⟩
    rcases List.mem_append.1 hy with e | e
    · exact a1 y e
    · exact h x (List.mem_cons_self ..) y e
theorem upR_put {l : List Int} (n : Int) (h : upR l) : upR (putR l n) := by
  unfold putR; split
  · exact h
  · refine upR_append (upR_filter _ h) (upR_cons.2 ⟨fun y hy => by simpa using (List.mem_filter.1 hy).2, upR_filter _ h⟩) fun x hx y hy => ?_
    have h1 : x < n := by simpa using (List.mem_filter.1 hx).2
    rcases List.mem_cons.1 hy with rfl | hy
    · exact h1
    · have : n < y := by simpa using (List.mem_filter.1 hy).2
      omega
/-- What is in either. -/
def eithR (a b : List Int) : List Int := b.foldl putR a
theorem eithR_mem : ∀ {b a : List Int} {x : Int}, x ∈ eithR a b ↔ x ∈ a ∨ x ∈ b
  | [], a, x => by simp [eithR]
  | y :: b, a, x => by
    show x ∈ eithR (putR a y) b ↔ _
    rw [eithR_mem, putR_mem, List.mem_cons, or_assoc]
theorem upR_eith : ∀ {b a : List Int}, upR a → upR (eithR a b)
  | [], _, h => h
  | y :: b, _, h => upR_eith (b := b) (upR_put y h)
theorem putR_len (l : List Int) (n : Int) : (putR l n).length ≤ l.length + 1 := by
  unfold putR; split
  · omega
  · have h : ∀ l : List Int, (l.filter (fun x => decide (x < n))).length + (l.filter (fun x => decide (n < x))).length ≤ l.length := by
      intro l
      induction l with
      | nil => simp
      | cons x l ih =>
        rw [List.filter_cons, List.filter_cons, List.length_cons]
        by_cases h1 : x < n
        · have h2 : ¬ n < x := by omega
          simp only [h1, h2, decide_true, decide_false, if_true, Bool.false_eq_true, if_false, List.length_cons]; omega
        · by_cases h2 : n < x
          · simp only [h1, h2, decide_true, decide_false, if_true, Bool.false_eq_true, if_false, List.length_cons]; omega
          · simp only [h1, h2, decide_false, Bool.false_eq_true, if_false]; omega
    have := h l
    rw [List.length_append, List.length_cons]; omega
theorem eithR_len : ∀ (b a : List Int), (eithR a b).length ≤ a.length + b.length
  | [], _ => by simp [eithR]
  | y :: b, a => by
    have h1 : (eithR (putR a y) b).length ≤ (putR a y).length + b.length := eithR_len b _
    have h2 := putR_len a y
    show (eithR (putR a y) b).length ≤ a.length + (b.length + 1)
    omega
theorem putR_in {l : List Int} {n : Int} (h : ∀ x ∈ l, In64 x) (hn : In64 n) : ∀ x ∈ putR l n, In64 x := fun x hx => by
  rcases putR_mem.1 hx with e | rfl
  · exact h x e
  · exact hn
theorem siftR_in {a b : List Int} {h : Bool} (ha : ∀ x ∈ a, In64 x) : ∀ x ∈ siftR a b h, In64 x := fun x hx => ha x (siftR_mem.1 hx).1
theorem eithR_in {a b : List Int} (ha : ∀ x ∈ a, In64 x) (hb : ∀ x ∈ b, In64 x) : ∀ x ∈ eithR a b, In64 x := fun x hx => by
  rcases eithR_mem.1 hx with e | e
  · exact ha x e
  · exact hb x e
theorem inR_of {l : List Int} (h : ∀ x ∈ l, 0 ≤ x ∧ x ≤ 999) : inR l := fun _ hk => h _ (at0_mem hk)
theorem inR_all {l : List Int} (h : inR l) : ∀ x ∈ l, 0 ≤ x ∧ x ≤ 999 := fun x hx => by
  obtain ⟨j, hj, rfl⟩ := List.getElem_of_mem hx
  have := h j hj
  rwa [at0_get hj] at this
theorem good64 {l : List Int} (h : GoodR l) : ∀ x ∈ l, In64 x := fun x hx => by have := inR_all h.2.1 x hx; unfold In64; omega
theorem good_sift {a : List Int} (b : List Int) (h : Bool) (ha : GoodR a) : GoodR (siftR a b h) :=
  ⟨Nat.le_trans (siftR_len a b h) ha.1, inR_of fun x hx => inR_all ha.2.1 x (siftR_mem.1 hx).1, upR_filter _ ha.2.2⟩
end Go.Proofs.Ytabkjjbhnapgpaa
