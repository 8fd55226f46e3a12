/- Plain mathematics of bits in their opposite order. No program is spoken of. -/
namespace Go.Proofs.Yteiefngamccapaa

/-- The lowest k bits of u, in their opposite order. -/
def revN (u : Nat) : Nat → Nat
  | 0 => 0
  | k + 1 => 2 * revN u k + u / 2 ^ k % 2
theorem revN_lt (u : Nat) : ∀ k, revN u k < 2 ^ k
  | 0 => by simp [revN]
  | k + 1 => by
    have := revN_lt u k
    have h2 : u / 2 ^ k % 2 < 2 := Nat.mod_lt _ (by decide)
    rw [revN, Nat.pow_succ]; omega
theorem revN_bit (u : Nat) : ∀ k i, (revN u k).testBit i = (decide (i < k) && u.testBit (k - 1 - i))
  | 0, i => by simp [revN]
  | k + 1, i => by
    have hb : u / 2 ^ k % 2 < 2 := Nat.mod_lt _ (by decide)
    cases i with
    | zero =>
      rw [revN, Nat.testBit_zero]
      have : (2 * revN u k + u / 2 ^ k % 2) % 2 = u / 2 ^ k % 2 := by omega
      rw [this, Nat.add_sub_cancel, Nat.sub_zero, Nat.testBit_eq_decide_div_mod_eq]
      simp
    | succ i =>
      rw [revN, Nat.testBit_succ]
      have : (2 * revN u k + u / 2 ^ k % 2) / 2 = revN u k := by omega
      rw [this, revN_bit u k i, Nat.add_sub_cancel]
      have e : k - 1 - i = k - (i + 1) := by omega
      rw [e]
      simp
/-- The 64 bits in their opposite order. -/
def flipN (u : Nat) : Nat := revN u 64
theorem flipN_lt (u : Nat) : flipN u < 18446744073709551616 := revN_lt u 64
theorem flipN_flip {u : Nat} (h : u < 18446744073709551616) : flipN (flipN u) = u := by
  apply Nat.eq_of_testBit_eq
  intro i
  unfold flipN
  rw [revN_bit, revN_bit]
  by_cases hi : i < 64
  · have h1 : 64 - 1 - i < 64 := by omega
    have h2 : 64 - 1 - (64 - 1 - i) = i := by omega
    rw [h2]; simp [hi, h1]
  · have : u.testBit i = false := Nat.testBit_lt_two_pow (Nat.lt_of_lt_of_le h (Nat.pow_le_pow_right (n := 2) (i := 64) (by decide) (by omega)))
    simp [hi, this]
theorem flipN_of {u v : Nat} (hv : v < 18446744073709551616) (h : ∀ i, i < 64 → v.testBit i = u.testBit (63 - i)) : v = flipN u := by
  apply Nat.eq_of_testBit_eq
  intro i
  unfold flipN
  rw [revN_bit]
  by_cases hi : i < 64
  · rw [h i hi]; simp [hi]
  · rw [Nat.testBit_lt_two_pow (Nat.lt_of_lt_of_le hv (Nat.pow_le_pow_right (n := 2) (i := 64) (by decide) (by omega)))]; simp [hi]
/-- All 64 bits turned: what is left of the greatest. -/
theorem xor_ones {x : Nat} (h : x < 18446744073709551616) : x ^^^ 18446744073709551615 = 18446744073709551615 - x := by
  have e := congrArg BitVec.toNat (BitVec.xor_allOnes (x := BitVec.ofNat 64 x))
  rw [BitVec.toNat_xor, BitVec.toNat_not, BitVec.toNat_allOnes, BitVec.toNat_ofNat, Nat.mod_eq_of_lt h] at e
  exact e
/-- A part below 2^k and one above it, laid together by 'or', are added. -/
theorem or_parts {a b k : Nat} (h : a < 2 ^ k) : a ||| (b * 2 ^ k) = a + b * 2 ^ k := by
  rw [Nat.or_comm, Nat.mul_comm b, ← Nat.two_pow_add_eq_or_of_lt h b, Nat.add_comm]

/-- Neighbours of k bits change places. -/
def swp (k M x : Nat) : Nat := (x / 2 ^ k &&& M) ||| ((x &&& M) * 2 ^ k % 18446744073709551616)
def plc (k M i : Nat) : Nat := if M.testBit i = true then k + i else i - k
def Fits (k M : Nat) : Prop := ∀ i, i < 64 → (M.testBit i = true → i < k ∨ M.testBit (i - k) = false) ∧ (M.testBit i = false → k ≤ i ∧ M.testBit (i - k) = true)
instance (k M : Nat) : Decidable (Fits k M) := by unfold Fits; infer_instance
theorem swp_bit {k M : Nat} (hf : Fits k M) (x : Nat) {i : Nat} (hi : i < 64) : (swp k M x).testBit i = x.testBit (plc k M i) := by
  unfold swp plc
  have e2 : (18446744073709551616 : Nat) = 2 ^ 64 := by decide
  rw [e2, Nat.testBit_or, Nat.testBit_and, Nat.testBit_div_two_pow, Nat.testBit_mod_two_pow, ← Nat.shiftLeft_eq, Nat.testBit_shiftLeft, Nat.testBit_and]
  cases hM : M.testBit i with
  | true =>
    rcases (hf i hi).1 hM with h | h
    · simp [show ¬ k ≤ i by omega, Nat.add_comm]
    · simp [h, Nat.add_comm]
  | false =>
    obtain ⟨h1, h2⟩ := (hf i hi).2 hM
    simp [h1, h2, hi]
theorem swp_lt (k M x : Nat) (hM : M < 18446744073709551616) : swp k M x < 18446744073709551616 := by
  unfold swp
  have e2 : (18446744073709551616 : Nat) = 2 ^ 64 := by decide
  rw [e2] at hM ⊢
  exact Nat.or_lt_two_pow (Nat.lt_of_le_of_lt Nat.and_le_right hM) (Nat.mod_lt _ (by decide))
def half (x : Nat) : Nat := x / 2 ^ 32 ||| (x * 2 ^ 32 % 18446744073709551616)
theorem half_bit {x : Nat} (hx : x < 18446744073709551616) {i : Nat} (hi : i < 64) : (half x).testBit i = x.testBit (if i < 32 then 32 + i else i - 32) := by
  unfold half
  have e2 : (18446744073709551616 : Nat) = 2 ^ 64 := by decide
  rw [e2, Nat.testBit_or, Nat.testBit_div_two_pow, Nat.testBit_mod_two_pow, ← Nat.shiftLeft_eq, Nat.testBit_shiftLeft]
  by_cases h : i < 32
  · simp [h, show ¬ 32 ≤ i by omega, Nat.add_comm]
  · have : x.testBit (i + 32) = false := Nat.testBit_lt_two_pow (Nat.lt_of_lt_of_le hx (Nat.pow_le_pow_right (n := 2) (i := 64) (by decide) (by omega)))
    simp [h, this, hi, show 32 ≤ i by omega]
theorem half_lt {x : Nat} (hx : x < 18446744073709551616) : half x < 18446744073709551616 := by
  unfold half
  have e2 : (18446744073709551616 : Nat) = 2 ^ 64 := by decide
  rw [e2] at hx ⊢
  exact Nat.or_lt_two_pow (Nat.lt_of_le_of_lt (Nat.div_le_self _ _) hx) (Nat.mod_lt _ (by decide))
def m0 : Nat := 6148914691236517205
def m1 : Nat := 3689348814741910323
def m2 : Nat := 1085102592571150095
def m3 : Nat := 71777214294589695
def m4 : Nat := 281470681808895
theorem fits0 : Fits 1 m0 := by decide
theorem fits1 : Fits 2 m1 := by decide
theorem fits2 : Fits 4 m2 := by decide
theorem fits3 : Fits 8 m3 := by decide
theorem fits4 : Fits 16 m4 := by decide
theorem places : ∀ i, i < 64 → (if i < 32 then 32 + i else i - 32) < 64 ∧ plc 16 m4 (if i < 32 then 32 + i else i - 32) < 64 ∧ plc 8 m3 (plc 16 m4 (if i < 32 then 32 + i else i - 32)) < 64 ∧ plc 4 m2 (plc 8 m3 (plc 16 m4 (if i < 32 then 32 + i else i - 32))) < 64 ∧ plc 2 m1 (plc 4 m2 (plc 8 m3 (plc 16 m4 (if i < 32 then 32 + i else i - 32)))) < 64 ∧ plc 1 m0 (plc 2 m1 (plc 4 m2 (plc 8 m3 (plc 16 m4 (if i < 32 then 32 + i else i - 32))))) = 63 - i := by decide
theorem flip_steps {u : Nat} : half (swp 16 m4 (swp 8 m3 (swp 4 m2 (swp 2 m1 (swp 1 m0 u))))) = flipN u := by
  refine flipN_of (half_lt (swp_lt _ _ _ (by decide))) fun i hi => ?_
  obtain ⟨h0, h1, h2, h3, h4, h5⟩ := places i hi
  rw [half_bit (swp_lt _ _ _ (by decide)) hi, swp_bit fits4 _ h0, swp_bit fits3 _ h1, swp_bit fits2 _ h2, swp_bit fits1 _ h3, swp_bit fits0 _ h4, h5]
end Go.Proofs.Yteiefngamccapaa
