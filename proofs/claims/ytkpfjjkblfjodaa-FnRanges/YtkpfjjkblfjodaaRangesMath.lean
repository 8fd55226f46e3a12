/- Plain facts on the least and the greatest of a list of values and on sums, by bits. Nothing of the program stands here. -/
import Derived.Test.YtkpfjjkblfjodaaRange
import Derived.Test.YtkpfjjkblfjodaaOrder
namespace Go.Proofs.Ytkpfjjkblfjodaa

theorem less_lt {a b c : Nat} (h1 : lessB a b = false) (h2 : lessB c b = true) (ha : isNan a = false) (hb : isNan b = false) (hc : isNan c = false) : lessB a c = false := by
  unfold lessB at *
  rw [ha, hb] at h1; rw [hc, hb] at h2; rw [ha, hc]
  simp at *; omega

/-- What holds of the least and the greatest of the values so far. -/
def Ranged (xs : List Nat) (s : Nat × Nat × Bool) : Prop :=
  (s.2.2 = false → s = (0, 0, false) ∧ ∀ x ∈ xs, isNan x = true) ∧
  (s.2.2 = true → s.1 ∈ xs ∧ s.2.1 ∈ xs ∧ isNan s.1 = false ∧ isNan s.2.1 = false ∧ ∀ x ∈ xs, isNan x = false → lessB x s.1 = false ∧ lessB s.2.1 x = false)

theorem ranged_step {xs : List Nat} {s : Nat × Nat × Bool} (h : Ranged xs s) (x : Nat) : Ranged (xs ++ [x]) (rngStep s x) := by
  obtain ⟨lo, hi, f⟩ := s
  obtain ⟨h1, h2⟩ := h
  unfold rngStep
  cases hx : isNan x
  · simp only [Bool.false_eq_true, if_false]
    refine ⟨fun h => by simp at h, fun _ => ?_⟩
    cases f
    · obtain ⟨_, hall⟩ := h1 rfl
      simp only [Bool.not_false, Bool.true_or, if_true]
      refine ⟨by simp, by simp, hx, hx, fun y hy hny => ?_⟩
      simp only [List.mem_append, List.mem_singleton] at hy
      rcases hy with hy | rfl
      · rw [hall y hy] at hny; cases hny
      · exact ⟨less_irrefl _, less_irrefl _⟩
    · obtain ⟨hl, hh, nl, nh, hall⟩ := h2 rfl
      simp only at hl hh nl nh hall
      simp only [Bool.not_true, Bool.false_or]
      refine ⟨?_, ?_, ?_, ?_, fun y hy hny => ⟨?_, ?_⟩⟩
      · split
        · simp
        · simp [hl]
      · split
        · simp
        · simp [hh]
      · split
        · exact hx
        · exact nl
      · split
        · exact hx
        · exact nh
      · simp only [List.mem_append, List.mem_singleton] at hy
        rcases hy with hy | rfl
        · split
          · rename_i hc
            exact less_lt (hall y hy hny).1 hc hny nl hx
          · exact (hall y hy hny).1
        · split
          · exact less_irrefl _
          · rename_i hc; simpa using hc
      · simp only [List.mem_append, List.mem_singleton] at hy
        rcases hy with hy | rfl
        · split
          · rename_i hc
            have h3 := (hall y hy hny).2
            cases h4 : lessB x y
            · rfl
            · rw [less_trans hc h4] at h3; cases h3
          · exact (hall y hy hny).2
        · split
          · exact less_irrefl _
          · rename_i hc; simpa using hc
  · simp only [if_true]
    refine ⟨fun h => ?_, fun h => ?_⟩
    · obtain ⟨e, hall⟩ := h1 h
      refine ⟨e, fun y hy => ?_⟩
      simp only [List.mem_append, List.mem_singleton] at hy
      rcases hy with hy | rfl
      · exact hall y hy
      · exact hx
    · obtain ⟨hl, hh, nl, nh, hall⟩ := h2 h
      refine ⟨by simp [hl], by simp [hh], nl, nh, fun y hy hny => ?_⟩
      simp only [List.mem_append, List.mem_singleton] at hy
      rcases hy with hy | rfl
      · exact hall y hy hny
      · rw [hx] at hny; cases hny

theorem ranged_take (xs : List Nat) (k : Nat) (hk : k ≤ xs.length) : Ranged (xs.take k) (rngB (xs.take k)) := by
  induction k with
  | zero => exact ⟨fun _ => ⟨rfl, fun x hx => by simp at hx⟩, fun h => by simp [rngB] at h⟩
  | succ k ih =>
    rw [take_snoc (by omega), rngB_snoc]
    exact ranged_step (ih (by omega)) _

theorem ranged (xs : List Nat) : Ranged xs (rngB xs) := by
  have := ranged_take xs xs.length (Nat.le_refl _)
  rwa [List.take_length] at this

theorem sum_take_not_nan (xs : List Nat) (k : Nat) (hk : k ≤ xs.length) {r : Nat} (h : sumB (xs.take k) = some r) : isNan r = false := by
  cases k with
  | zero => simp [sumB] at h; subst h; decide
  | succ k =>
    rw [take_snoc (by omega), sumB_snoc] at h
    unfold accB at h
    cases ho : sumB (xs.take k) with
    | none => rw [ho] at h; simp at h
    | some a => rw [ho] at h; exact add_not_nan h

/-- A sum that is a NaN is the one that is told. -/
theorem clean_nan (xs : List Nat) (h : isNan (cleanB (sumB xs)) = true) : cleanB (sumB xs) = 9221120237041090561 := by
  cases ho : sumB xs with
  | none => rfl
  | some r =>
    have h2 : sumB (xs.take xs.length) = some r := by rw [List.take_length]; exact ho
    have h3 := sum_take_not_nan xs xs.length (Nat.le_refl _) h2
    rw [ho] at h
    have : isNan r = true := h
    rw [h3] at this; cases this

theorem clean_lt (xs : List Nat) : cleanB (sumB xs) < 18446744073709551616 := by
  cases ho : sumB xs with
  | none => decide
  | some r =>
    show r < _
    have h2 : sumB (xs.take xs.length) = some r := by rw [List.take_length]; exact ho
    cases hk : xs.length with
    | zero => rw [hk] at h2; simp [sumB] at h2; omega
    | succ k =>
      rw [hk, take_snoc (by omega), sumB_snoc] at h2
      unfold accB at h2
      cases hp : sumB (xs.take k) with
      | none => rw [hp] at h2; simp at h2
      | some a => rw [hp] at h2; exact add_lt64 h2

/-- Whether a value is among the first ones. -/
def seenB (xs : List Nat) (v : Nat) : Bool := xs.any fun x => sameB x v
theorem seenB_snoc (xs : List Nat) (x v : Nat) : seenB (xs ++ [x]) v = (seenB xs v || sameB x v) := by simp [seenB]
theorem seenB_mem {xs : List Nat} {v : Nat} (h : v ∈ xs) : seenB xs v = true := by
  unfold seenB
  rw [List.any_eq_true]
  exact ⟨v, h, sameB_refl v⟩
end Go.Proofs.Ytkpfjjkblfjodaa
