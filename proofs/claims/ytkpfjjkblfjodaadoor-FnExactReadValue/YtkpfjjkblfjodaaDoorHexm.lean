/- Plain facts on hexadecimal texts of sixteen letters: a text that is one is the text of its number, and a number's text is one. Nothing of the program stands here. -/
import Derived.Test.YtkpfjjkblfjodaaDoorVal
namespace Go.Proofs.YtkpfjjkblfjodaaDoor

/-- The digit of a letter. -/
def hexv (c : Nat) : Option Nat := if 48 ≤ c ∧ c ≤ 57 then some (c - 48) else if 97 ≤ c ∧ c ≤ 102 then some (c - 87) else none

theorem hexv_some {c d : Nat} (h : hexv c = some d) : d < 16 ∧ hexd d = c := by
  unfold hexv at h
  split at h
  · simp at h; subst h; unfold hexd; rw [if_pos (by omega)]; omega
  · split at h
    · simp at h; subst h; unfold hexd; rw [if_neg (by omega)]; omega
    · cases h

theorem hexv_hexd (d : Nat) (h : d < 16) : hexv (hexd d) = some d := by
  have hall : ∀ d : Fin 16, hexv (hexd d.val) = some d.val := by decide
  exact hall ⟨d, h⟩

def validL (l : List UInt8) : Bool := l.all fun c => (hexv c.toNat).isSome
def valL (l : List UInt8) : Nat := l.foldl (fun v c => v * 16 + (hexv c.toNat).getD 0) 0
theorem valL_snoc (l : List UInt8) (c : UInt8) : valL (l ++ [c]) = valL l * 16 + (hexv c.toNat).getD 0 := by simp [valL]
theorem validL_snoc (l : List UInt8) (c : UInt8) : validL (l ++ [c]) = (validL l && (hexv c.toNat).isSome) := by simp [validL]

theorem getD_lt (c : Nat) : (hexv c).getD 0 < 16 := by
  cases h : hexv c with
  | none => decide
  | some d => exact (hexv_some h).1

theorem hexL_succ (u n : Nat) : hexL u (n + 1) = hexL (u / 16) n ++ [UInt8.ofNat (hexd (u % 16))] := by
  apply List.ext_getElem
  · simp [hexL_length]
  · intro p h1 h2
    rw [hexL_length] at h1
    by_cases hp : p < n
    · rw [List.getElem_append_left (by rw [hexL_length]; exact hp)]
      simp only [hexL, List.getElem_map, List.getElem_range]
      rw [Nat.div_div_eq_div_mul, Nat.mul_comm, ← Nat.pow_succ, show (n - 1 - p).succ = n + 1 - 1 - p from by omega]
    · have e : p = n := by omega
      subst e
      rw [List.getElem_append_right (by rw [hexL_length]; exact Nat.le_refl _)]
      simp only [hexL, List.getElem_map, List.getElem_range]
      simp

theorem byte_of {c : UInt8} {d : Nat} (h : hexd d = c.toNat) : UInt8.ofNat (hexd d) = c := by rw [h]; simp

/-- A text whose letters are all digits is the text of its number. -/
theorem hexL_val (n : Nat) : ∀ l : List UInt8, l.length = n → validL l = true → hexL (valL l) n = l ∧ valL l < 16 ^ n := by
  induction n with
  | zero =>
    intro l hl _
    have : l = [] := List.eq_nil_of_length_eq_zero hl
    subst this
    exact ⟨rfl, by decide⟩
  | succ n ih =>
    intro l hl hv
    obtain ⟨l', c, rfl⟩ : ∃ l' c, l = l' ++ [c] := by
      have hne : l ≠ [] := by intro e; rw [e] at hl; simp at hl
      exact ⟨l.dropLast, l.getLast hne, (List.dropLast_concat_getLast hne).symm⟩
    simp at hl
    rw [validL_snoc, Bool.and_eq_true] at hv
    obtain ⟨h1, h2⟩ := ih l' hl hv.1
    obtain ⟨d, hd⟩ := Option.isSome_iff_exists.1 hv.2
    obtain ⟨hd16, hdc⟩ := hexv_some hd
    rw [valL_snoc, hd]
    show hexL (valL l' * 16 + d) (n + 1) = _ ∧ valL l' * 16 + d < _
    refine ⟨?_, by rw [Nat.pow_succ]; omega⟩
    rw [hexL_succ, show (valL l' * 16 + d) / 16 = valL l' from by omega, show (valL l' * 16 + d) % 16 = d from by omega, h1, byte_of hdc]

/-- A number's text has digits alone, and it is read back. -/
theorem val_hexL (n : Nat) : ∀ u, u < 16 ^ n → valL (hexL u n) = u ∧ validL (hexL u n) = true := by
  induction n with
  | zero =>
    intro u hu
    have : u = 0 := by simp at hu; exact hu
    subst this
    exact ⟨rfl, rfl⟩
  | succ n ih =>
    intro u hu
    rw [Nat.pow_succ] at hu
    obtain ⟨h1, h2⟩ := ih (u / 16) (by omega)
    have hd : u % 16 < 16 := Nat.mod_lt _ (by decide)
    have hb : (UInt8.ofNat (hexd (u % 16))).toNat = hexd (u % 16) := by
      rw [UInt8.toNat_ofNat', Nat.mod_eq_of_lt (hexd_lt _ hd)]
    rw [hexL_succ, valL_snoc, validL_snoc, h1, h2, hb, hexv_hexd _ hd]
    refine ⟨?_, rfl⟩
    show u / 16 * 16 + u % 16 = u
    omega

def goodS (s : ByteArray) : Prop := s.size = 16 ∧ validL s.data.toList = true

theorem hexS_of_good {s : ByteArray} (h : goodS s) : hexS (valL s.data.toList) = s ∧ valL s.data.toList < 18446744073709551616 := by
  obtain ⟨h1, h2⟩ := hexL_val 16 s.data.toList ((Array.length_toList).trans h.1) h.2
  refine ⟨?_, ?_⟩
  · unfold hexS
    rw [h1]
  · have : (16 : Nat) ^ 16 = 18446744073709551616 := by decide
    omega

theorem good_hexS {u : Nat} (hu : u < 18446744073709551616) : goodS (hexS u) ∧ valL (hexS u).data.toList = u := by
  have e : (16 : Nat) ^ 16 = 18446744073709551616 := by decide
  obtain ⟨h1, h2⟩ := val_hexL 16 u (by omega)
  refine ⟨⟨?_, ?_⟩, ?_⟩
  · simp [hexS, ByteArray.size, hexL_length]
  · simpa [hexS] using h2
  · simpa [hexS] using h1

theorem valid_take {l : List UInt8} (h : validL l = true) (k : Nat) : validL (l.take k) = true := by
  unfold validL at *
  rw [List.all_eq_true] at *
  exact fun c hc => h c (List.mem_of_mem_take hc)

theorem valid_at {l : List UInt8} (h : validL l = true) {k : Nat} (hk : k < l.length) : ∃ d, hexv (l[k]).toNat = some d := by
  unfold validL at h
  rw [List.all_eq_true] at h
  exact Option.isSome_iff_exists.1 (h _ (List.getElem_mem hk))

theorem take_next (l : List UInt8) {k : Nat} (hk : k < l.length) : l.take (k + 1) = l.take k ++ [l[k]] := List.take_succ_eq_append_getElem hk

theorem val_take_lt (l : List UInt8) (k : Nat) : valL (l.take k) < 16 ^ k := by
  induction k with
  | zero => simp [valL]
  | succ k ih =>
    by_cases hk : k < l.length
    · rw [take_next l hk, valL_snoc, Nat.pow_succ]
      have := getD_lt (l[k]).toNat
      omega
    · rw [List.take_of_length_le (by omega)]
      rw [List.take_of_length_le (by omega)] at ih
      rw [Nat.pow_succ]
      omega
end Go.Proofs.YtkpfjjkblfjodaaDoor
