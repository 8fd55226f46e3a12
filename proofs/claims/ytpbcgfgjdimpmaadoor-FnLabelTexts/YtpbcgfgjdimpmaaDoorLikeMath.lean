/- Plain mathematics of forms with stars: the pieces between bytes, what is of a form, and that finding the parts one behind another at their first places decides it. -/
import Derived.Shelf.Strings.Split
import Derived.Shelf.Strings.OnBuilder
namespace Go.Proofs.YtpbcgfgjdimpmaaDoor
open Go
/-- The pieces of a text between the bytes b. -/
def pieces (b : UInt8) : List UInt8 → List (List UInt8)
  | [] => [[]]
  | x :: s => if x = b then [] :: pieces b s else match pieces b s with
    | p :: ps => (x :: p) :: ps
    | [] => [[x]]
theorem pieces_free {b : UInt8} : ∀ {p : List UInt8}, (∀ x ∈ p, x ≠ b) → pieces b p = [p]
  | [], _ => rfl
  | x :: p, h => by
    rw [pieces, if_neg (h x (List.mem_cons_self ..)), pieces_free (fun y hy => h y (List.mem_cons_of_mem _ hy))]
theorem pieces_cut {b : UInt8} : ∀ {p q : List UInt8}, (∀ x ∈ p, x ≠ b) → pieces b (p ++ b :: q) = p :: pieces b q
  | [], q, _ => by rw [List.nil_append, pieces, if_pos rfl]
  | x :: p, q, h => by
    rw [List.cons_append, pieces, if_neg (h x (List.mem_cons_self ..)), pieces_cut (fun y hy => h y (List.mem_cons_of_mem _ hy))]
theorem pieces_some (b : UInt8) : ∀ (s : List UInt8), ∃ p ps, pieces b s = p :: ps
  | [] => ⟨[], [], rfl⟩
  | x :: s => by
    obtain ⟨p, ps, h⟩ := pieces_some b s
    rw [pieces, h]
    by_cases e : x = b
    · rw [if_pos e]; exact ⟨_, _, rfl⟩
    · rw [if_neg e]; exact ⟨_, _, rfl⟩
theorem pieces_join {b : UInt8} : ∀ (s : List UInt8), Lib.join (pieces b s) [b] = s
  | [] => by simp [pieces, Lib.join_one]
  | x :: s => by
    have ih := pieces_join (b := b) s
    obtain ⟨p, ps, h⟩ := pieces_some b s
    rw [pieces, h]
    rw [h, Lib.join_cons] at ih
    by_cases e : x = b
    · subst e
      rw [if_pos rfl, Lib.join_cons, ← ih]
      simp [Lib.joinTail]
    · rw [if_neg e]
      show Lib.join ((x :: p) :: ps) [b] = x :: s
      rw [Lib.join_cons, List.cons_append, ih]

/-- What has been cut off up to i, where the piece under way began at f. -/
theorem join_cons2 (p q : List UInt8) (ps : List (List UInt8)) (b : UInt8) : Lib.join (p :: q :: ps) [b] = p ++ b :: Lib.join (q :: ps) [b] := by
  rw [Lib.join_cons, Lib.join_cons]
  simp [Lib.joinTail]
theorem pieces_free_mem {b : UInt8} : ∀ (s : List UInt8), ∀ p ∈ pieces b s, ∀ x ∈ p, x ≠ b
  | [], p, hp => by simp [pieces] at hp; subst hp; simp
  | x :: s, p, hp => by
    have ih := pieces_free_mem (b := b) s
    obtain ⟨q, qs, h⟩ := pieces_some b s
    rw [h] at ih
    rw [pieces, h] at hp
    by_cases e : x = b
    · rw [if_pos e] at hp
      rcases List.mem_cons.1 hp with rfl | hp
      · simp
      · exact ih p hp
    · rw [if_neg e] at hp
      rcases List.mem_cons.1 hp with rfl | hp
      · intro y hy
        rcases List.mem_cons.1 hy with rfl | hy
        · exact e
        · exact ih q (by simp) y hy
      · exact ih p (List.mem_cons_of_mem _ hp)

/-- A text is of a form: a star (byte 42) for any bytes, each other byte for itself. -/
def like : List UInt8 → List UInt8 → Bool
  | [], s => s.isEmpty
  | c :: f, s => if c = 42 then (List.range (s.length + 1)).any (fun k => like f (s.drop k)) else match s with
    | [] => false
    | d :: t => d == c && like f t
theorem like_cons (c : UInt8) (f s : List UInt8) : like (c :: f) s = if c = 42 then (List.range (s.length + 1)).any (fun k => like f (s.drop k)) else match s with
    | [] => false
    | d :: t => d == c && like f t := by cases s <;> rfl
theorem like_star (f s : List UInt8) : like (42 :: f) s = true ↔ ∃ a b, s = a ++ b ∧ like f b = true := by
  rw [like_cons, if_pos rfl, List.any_eq_true]
  constructor
  · rintro ⟨k, _, h⟩
    exact ⟨s.take k, s.drop k, (List.take_append_drop k s).symm, h⟩
  · rintro ⟨a, b, rfl, h⟩
    exact ⟨a.length, by simp; omega, by simpa using h⟩
theorem like_free : ∀ {p : List UInt8}, (∀ x ∈ p, x ≠ 42) → ∀ (f s : List UInt8), like (p ++ f) s = true ↔ ∃ t, s = p ++ t ∧ like f t = true
  | [], _, f, s => ⟨fun h => ⟨s, rfl, h⟩, fun ⟨t, e, h⟩ => by subst e; exact h⟩
  | c :: p, hp, f, s => by
    have hc : c ≠ 42 := hp c (by simp)
    have ih := like_free (fun x hx => hp x (List.mem_cons_of_mem _ hx)) f
    rw [List.cons_append, like_cons, if_neg hc]
    cases s with
    | nil => simp
    | cons d t =>
      simp only [Bool.and_eq_true, beq_iff_eq]
      rw [ih t]
      constructor
      · rintro ⟨rfl, u, rfl, h⟩
        exact ⟨u, rfl, h⟩
      · rintro ⟨u, e, h⟩
        simp only [List.cons_append, List.cons.injEq] at e
        exact ⟨e.1, u, e.2, h⟩
theorem like_nil (s : List UInt8) : like [] s = true ↔ s = [] := by
  rw [like]; cases s <;> simp
/-- What is left of a text behind the first part of a form: the parts between, in their order, and the last one at its end. -/
def Mid : List (List UInt8) → List UInt8 → List UInt8 → Prop
  | [], e, s => e <:+ s
  | m :: ms, e, s => ∃ a b, s = a ++ (m ++ b) ∧ Mid ms e b
theorem Mid.more {ms : List (List UInt8)} {e : List UInt8} {s : List UInt8} (x : List UInt8) (h : Mid ms e s) : Mid ms e (x ++ s) := by
  cases ms with
  | nil => exact List.IsSuffix.trans h (List.suffix_append x s)
  | cons m ms =>
    obtain ⟨a, b, rfl, hb⟩ := h
    exact ⟨x ++ a, b, by simp, hb⟩
theorem Mid.ends : ∀ {ms : List (List UInt8)} {e s : List UInt8}, Mid ms e s → e <:+ s
  | [], _, _, h => h
  | m :: ms, e, s, h => by
    obtain ⟨a, b, rfl, hb⟩ := h
    exact (Mid.ends hb).trans ((List.suffix_append m b).trans (List.suffix_append a _))
theorem like_mid : ∀ (ms : List (List UInt8)) (e : List UInt8), (∀ p ∈ ms ++ [e], ∀ x ∈ p, x ≠ 42) → ∀ s, like (42 :: Lib.join (ms ++ [e]) [42]) s = true ↔ Mid ms e s
  | [], e, h, s => by
    have hj : Lib.join ([] ++ [e]) [42] = e ++ [] := by rw [List.nil_append, Lib.join_one, List.append_nil]
    rw [like_star, hj]
    have he := like_free (h e (by simp)) []
    constructor
    · rintro ⟨a, b, rfl, hb⟩
      obtain ⟨t, rfl, ht⟩ := (he b).1 hb
      rw [(like_nil t).1 ht, List.append_nil]
      exact List.suffix_append a e
    · rintro ⟨a, rfl⟩
      exact ⟨a, e, rfl, (he e).2 ⟨[], by simp, rfl⟩⟩
  | m :: ms, e, h, s => by
    have ih := like_mid ms e (fun p hp => h p (by simp only [List.cons_append]; exact List.mem_cons_of_mem _ hp))
    obtain ⟨q, qs, hq⟩ : ∃ q qs, ms ++ [e] = q :: qs := by cases ms <;> simp
    have hj : Lib.join (m :: ms ++ [e]) [42] = m ++ 42 :: Lib.join (ms ++ [e]) [42] := by
      rw [List.cons_append, hq, join_cons2]
    rw [like_star, hj]
    have hm := like_free (h m (by simp)) (42 :: Lib.join (ms ++ [e]) [42])
    constructor
    · rintro ⟨a, b, rfl, hb⟩
      obtain ⟨t, rfl, ht⟩ := (hm b).1 hb
      exact ⟨a, t, rfl, (ih t).1 ht⟩
    · rintro ⟨a, b, rfl, hb⟩
      exact ⟨a, m ++ b, rfl, (hm _).2 ⟨b, rfl, (ih b).2 hb⟩⟩
/-- The parts between found one behind another, each at its first place. -/
def greedy : List (List UInt8) → List UInt8 → Bool
  | [], _ => true
  | m :: ms, r => (Lib.cut r m).2.2 && greedy ms (Lib.cut r m).2.1
theorem cut_found {r m : List UInt8} (h : (Lib.cut r m).2.2 = true) : ∃ a, r = a ++ (m ++ (Lib.cut r m).2.1) ∧ ∀ a' b', r = a' ++ (m ++ b') → ∃ x, (Lib.cut r m).2.1 = x ++ b' := by
  unfold Lib.cut at h ⊢
  rcases Lib.index_spec r m with ⟨h1, _⟩ | ⟨i, h1, h2, h3, h4⟩
  · rw [h1] at h; simp at h
  · rw [h1, if_pos (by omega)]
    simp only [Int.toNat_natCast]
    unfold Lib.occAt at h3
    obtain ⟨t, ht⟩ := List.isPrefixOf_iff_prefix.1 h3
    have hd : r.drop (i + m.length) = t := by
      rw [← List.drop_drop, ← ht, List.drop_left]
    refine ⟨r.take i, ?_, fun a' b' e => ?_⟩
    · rw [hd, ht, List.take_append_drop]
    · have hle : i ≤ a'.length := by
        by_cases hlt : a'.length < i
        · have := h4 a'.length hlt
          unfold Lib.occAt at this
          rw [e, List.drop_left, List.isPrefixOf_iff_prefix.2 (List.prefix_append m b')] at this
          cases this
        · omega
      refine ⟨(r.drop (i + m.length)).take (a'.length - i), ?_⟩
      have hb : b' = (r.drop (i + m.length)).drop (a'.length - i) := by
        rw [List.drop_drop, show i + m.length + (a'.length - i) = a'.length + m.length by omega, e, ← List.drop_drop, List.drop_left, List.drop_left]
      rw [hb, List.take_append_drop]
theorem cut_miss {r m : List UInt8} (h : (Lib.cut r m).2.2 = false) : ∀ a b, r ≠ a ++ (m ++ b) := by
  unfold Lib.cut at h
  rcases Lib.index_spec r m with ⟨h1, h2⟩ | ⟨i, h1, _⟩
  · intro a b e
    have := h2 a.length (by rw [e]; simp)
    unfold Lib.occAt at this
    rw [e, List.drop_left, List.isPrefixOf_iff_prefix.2 (List.prefix_append m b)] at this
    cases this
  · rw [h1, if_pos (by omega)] at h; simp at h
theorem greedy_mid : ∀ (ms : List (List UInt8)) (e r : List UInt8), greedy ms r = true ↔ Mid ms e (r ++ e)
  | [], e, r => ⟨fun _ => List.suffix_append r e, fun _ => rfl⟩
  | m :: ms, e, r => by
    have ih := greedy_mid ms e
    rw [greedy, Bool.and_eq_true]
    constructor
    · rintro ⟨h1, h2⟩
      obtain ⟨a, ha, _⟩ := cut_found h1
      refine ⟨a, (Lib.cut r m).2.1 ++ e, ?_, (ih _).1 h2⟩
      conv => lhs; rw [ha]
      simp
    · rintro ⟨a, b, hab, hb⟩
      obtain ⟨b', rfl⟩ := hb.ends
      have hr : r = a ++ (m ++ b') := by
        apply List.append_cancel_right (bs := e)
        rw [hab]; simp
      have h1 : (Lib.cut r m).2.2 = true := by
        cases hc : (Lib.cut r m).2.2
        · exact absurd hr (cut_miss hc a b')
        · rfl
      obtain ⟨_, _, hx⟩ := cut_found h1
      obtain ⟨x, hx⟩ := hx a b' hr
      refine ⟨h1, (ih _).2 ?_⟩
      rw [hx, List.append_assoc]
      exact hb.more x
/-- A form of more than one part: its first part ahead, its last one at the end of the rest, and those between found in what is left. -/
theorem like_parts {f p e : List UInt8} {ms : List (List UInt8)} (h : pieces 42 f = p :: (ms ++ [e])) (s : List UInt8) :
    like f s = (Lib.hasPrefix s p && (Lib.hasSuffix (Lib.trimPrefix s p) e && greedy ms (Lib.trimSuffix (Lib.trimPrefix s p) e))) := by
  have hf := pieces_free_mem (b := 42) f
  have hj := pieces_join (b := 42) f
  rw [h] at hf hj
  obtain ⟨q, qs, hq⟩ : ∃ q qs, ms ++ [e] = q :: qs := by cases ms <;> simp
  have hj2 : f = p ++ 42 :: Lib.join (ms ++ [e]) [42] := by rw [← hj, hq, join_cons2]
  have h1 := like_free (hf p (by simp)) (42 :: Lib.join (ms ++ [e]) [42]) s
  have h2 := like_mid ms e (fun x hx => hf x (List.mem_cons_of_mem _ hx))
  rw [Bool.eq_iff_iff]
  simp only [Bool.and_eq_true]
  rw [hj2, h1]
  unfold Lib.hasPrefix Lib.hasSuffix Lib.trimPrefix Lib.trimSuffix Lib.hasPrefix Lib.hasSuffix
  simp only [List.isPrefixOf_iff_prefix, List.isSuffixOf_iff_suffix]
  constructor
  · rintro ⟨t, rfl, ht⟩
    have hm := (h2 t).1 ht
    obtain ⟨u, rfl⟩ := hm.ends
    have hpre : p <+: p ++ (u ++ e) := List.prefix_append _ _
    have hsuf : e <:+ u ++ e := List.suffix_append _ _
    refine ⟨hpre, ?_⟩
    rw [if_pos hpre, List.drop_left]
    refine ⟨hsuf, ?_⟩
    rw [if_pos hsuf]
    have : (u ++ e).take ((u ++ e).length - e.length) = u := by simp
    rw [this]
    exact (greedy_mid ms e u).2 hm
  · rintro ⟨⟨t, rfl⟩, h3, h4⟩
    rw [if_pos (List.prefix_append _ _), List.drop_left] at h3 h4
    obtain ⟨u, rfl⟩ := h3
    rw [if_pos (List.suffix_append _ _)] at h4
    have : (u ++ e).take ((u ++ e).length - e.length) = u := by simp
    rw [this] at h4
    exact ⟨u ++ e, rfl, (h2 _).2 ((greedy_mid ms e u).1 h4)⟩
theorem like_alone {f : List UInt8} {p : List UInt8} (h : pieces 42 f = [p]) (s : List UInt8) : like f s = (f == s) := by
  have hf := pieces_free_mem (b := 42) f
  have hj := pieces_join (b := 42) f
  rw [h] at hf hj
  rw [Lib.join_one] at hj
  subst hj
  have h1 := like_free (hf p (by simp)) [] s
  rw [List.append_nil] at h1
  rw [Bool.eq_iff_iff, h1, beq_iff_eq]
  constructor
  · rintro ⟨t, rfl, ht⟩
    rw [(like_nil t).1 ht, List.append_nil]
  · rintro rfl
    exact ⟨[], by simp, rfl⟩

/-- Cutting at one byte, as package strings does, gives the pieces. -/
theorem index_byte (s : List UInt8) (c : UInt8) : (Lib.index s [c] = -1 ∧ ∀ x ∈ s, x ≠ c) ∨ ∃ i : Nat, Lib.index s [c] = i ∧ s = s.take i ++ c :: s.drop (i + 1) ∧ ∀ x ∈ s.take i, x ≠ c := by
  rcases Lib.index_spec s [c] with ⟨h1, h2⟩ | ⟨i, h1, h2, h3, h4⟩
  · refine Or.inl ⟨h1, fun x hx e => ?_⟩
    subst e
    obtain ⟨a, b, rfl⟩ := List.append_of_mem hx
    have := h2 a.length (by simp)
    unfold Lib.occAt at this
    rw [List.drop_left] at this
    simp [List.isPrefixOf] at this
  · refine Or.inr ⟨i, h1, ?_, fun x hx e => ?_⟩
    · unfold Lib.occAt at h3
      obtain ⟨t, ht⟩ := List.isPrefixOf_iff_prefix.1 h3
      have : s.drop (i + 1) = t := by rw [← List.drop_drop, ← ht]; rfl
      rw [this]
      have h5 : c :: t = s.drop i := by rw [← ht]; rfl
      rw [h5, List.take_append_drop]
    · subst e
      obtain ⟨j, hj, e⟩ := List.getElem_of_mem hx
      have hji : j < i := by simp at hj; omega
      have := h4 j hji
      unfold Lib.occAt at this
      rw [List.getElem_take] at e
      rw [List.drop_eq_getElem_cons (by simp at hj; omega), e] at this
      simp [List.isPrefixOf] at this
theorem split_pieces (c : UInt8) : ∀ (fuel : Nat) (s : List UInt8), s.length < fuel → Lib.splitK [c] 0 (Lib.countFrom [c] fuel s) s = pieces c s
  | 0, s, h => absurd h (Nat.not_lt_zero _)
  | fuel + 1, s, h => by
    rcases index_byte s c with ⟨h1, h2⟩ | ⟨i, h1, h2, h3⟩
    · rw [Lib.countFrom, h1, if_pos (by rfl), Lib.splitK, pieces_free h2]
    · have hne : ¬ ((i : Int) == -1) = true := fun h => by have := beq_iff_eq.1 h; omega
      have hlt : (s.drop (i + 1)).length < fuel := by
        have := congrArg List.length h2
        simp only [List.length_append, List.length_take, List.length_cons, List.length_drop] at this ⊢
        omega
      rw [Lib.countFrom, h1, if_neg hne, Nat.add_comm 1, Lib.splitK, h1, if_neg hne]
      simp only [Int.toNat_natCast, Nat.add_zero, List.length_cons, List.length_nil, Nat.zero_add]
      rw [split_pieces c fuel _ hlt]
      conv => rhs; rw [h2, pieces_cut h3]
end Go.Proofs.YtpbcgfgjdimpmaaDoor
