/- Plain arithmetic on the 64 bits of a float64 as a natural number: masks, kinds, order. Nothing of the program stands here. -/
import Derived.WalkKit
import Derived.Laws.Bits64
import Derived.Laws.FloatArith
namespace Go.Proofs.Yteiefngamccapaa

theorem and_mul_pow (a m k : Nat) : a &&& (m * 2 ^ k) = ((a / 2 ^ k) &&& m) * 2 ^ k := by
  apply Nat.eq_of_testBit_eq
  intro i
  simp only [Nat.testBit_and, Nat.testBit_mul_two_pow, Nat.testBit_div_two_pow]
  by_cases h : k ≤ i
  · simp [h]
  · simp [h]

theorem mask_pow (a k : Nat) : a &&& (2 ^ k - 1) = a % 2 ^ k := Nat.and_two_pow_sub_one_eq_mod a k

theorem and_exp (b : Nat) (hb : b < 18446744073709551616) : bits BinOp.and IntKind.u64 (b : Int) 9218868437227405312 = ((b / 4503599627370496 % 2048 * 4503599627370496 : Nat) : Int) := by
  have h := bits_and_u64_nat b 9218868437227405312 (by omega) (by omega)
  have e : (9218868437227405312 : Nat) = 2047 * 2 ^ 52 := by decide
  have e2 : b &&& 9218868437227405312 = b / 4503599627370496 % 2048 * 4503599627370496 := by
    rw [e, and_mul_pow, show (2047 : Nat) = 2 ^ 11 - 1 from rfl, mask_pow]
  rw [e2] at h
  exact h

theorem and_frac (b : Nat) (hb : b < 18446744073709551616) : bits BinOp.and IntKind.u64 (b : Int) 4503599627370495 = ((b % 4503599627370496 : Nat) : Int) := by
  have h := bits_and_u64_nat b 4503599627370495 (by omega) (by omega)
  rw [show (4503599627370495 : Nat) = 2 ^ 52 - 1 from rfl, mask_pow] at h
  exact h

theorem and_pow11 (b : Nat) (hb : b < 18446744073709551616) : bits BinOp.and IntKind.u64 ((b : Int) / 4503599627370496) 2047 = ((b / 4503599627370496 % 2048 : Nat) : Int) := by
  have h := bits_and_u64_nat (b / 4503599627370496) 2047 (by omega) (by omega)
  rw [show (2047 : Nat) = 2 ^ 11 - 1 from rfl, mask_pow] at h
  exact h

theorem and_low63 (b : Nat) (hb : b < 18446744073709551616) : bits BinOp.and IntKind.u64 (b : Int) 9223372036854775807 = ((b % 9223372036854775808 : Nat) : Int) := by
  have h := bits_and_u64_nat b 9223372036854775807 (by omega) (by omega)
  rw [show (9223372036854775807 : Nat) = 2 ^ 63 - 1 from rfl, mask_pow] at h
  exact h

theorem and_sign (b : Nat) (hb : b < 18446744073709551616) : bits BinOp.and IntKind.u64 (b : Int) 9223372036854775808 = ((b / 9223372036854775808 * 9223372036854775808 : Nat) : Int) := by
  have h := bits_and_u64_nat b 9223372036854775808 (by omega) (by omega)
  have e : (9223372036854775808 : Nat) = 1 * 2 ^ 63 := by decide
  have e2 : b &&& 9223372036854775808 = b / 9223372036854775808 * 9223372036854775808 := by
    conv => lhs; rw [e]
    rw [and_mul_pow, Nat.and_one_is_mod]
    have : b / 2 ^ 63 % 2 = b / 9223372036854775808 := by omega
    rw [this]
  rw [e2] at h
  exact h

theorem or_sign (b : Nat) (hb : b < 9223372036854775808) : bits BinOp.or IntKind.u64 (b : Int) 9223372036854775808 = ((b + 9223372036854775808 : Nat) : Int) := by
  have h := bits_or_u64_nat b 9223372036854775808 (by omega) (by omega)
  have e2 : b ||| 9223372036854775808 = b + 9223372036854775808 := by
    rw [Nat.or_comm]
    have := Nat.two_pow_add_eq_or_of_lt (i := 63) (b := b) (by omega) 1
    show 2 ^ 63 * 1 ||| b = _
    rw [← this]
    omega
  rw [e2] at h
  exact h

theorem xor_max (b : Nat) (hb : b < 18446744073709551616) : bits BinOp.xor IntKind.u64 IntKind.u64.max (b : Int) = ((18446744073709551615 - b : Nat) : Int) := by
  have h := bits_xor_u64_nat 18446744073709551615 b (by omega) (by omega)
  have e2 : 18446744073709551615 ^^^ b = 18446744073709551615 - b := by
    have h1 : (BitVec.allOnes 64 ^^^ BitVec.ofNat 64 b) = ~~~ (BitVec.ofNat 64 b) := (BitVec.not_def).symm
    have h2 := congrArg BitVec.toNat h1
    rw [BitVec.toNat_xor, BitVec.toNat_not, BitVec.toNat_allOnes, BitVec.toNat_ofNat, Nat.mod_eq_of_lt hb] at h2
    exact h2
  rw [e2] at h
  exact h

/-- The kind of a value by its bits: 0 a NaN, 1 an infinity, 2 a zero, 3 not normalized, 4 any other. -/
def kindB (b : Nat) : Int :=
  if 9218868437227405312 < b % 9223372036854775808 then 0
  else if b % 9223372036854775808 = 9218868437227405312 then 1
  else if b % 9223372036854775808 = 0 then 2
  else if b % 9223372036854775808 < 4503599627370496 then 3
  else 4

def isNan (b : Nat) : Bool := decide (9218868437227405312 < b % 9223372036854775808)

theorem kindB_zero (b : Nat) : (kindB b == 0) = isNan b := by
  unfold kindB isNan
  repeat' split
  all_goals simp <;> omega

/-- The place of a value that is no NaN. -/
def placeB (b : Nat) : Int := if 9223372036854775808 ≤ b then -((b % 9223372036854775808 : Nat) : Int) - 1 else (b : Int)

def lessB (a b : Nat) : Bool :=
  if isNan a then isNan b && decide (a < b) else isNan b || decide (placeB a < placeB b)

/-- The program's own rank. -/
def rankB (b : Nat) : Int := if 9223372036854775808 ≤ b then 18446744073709551615 - (b : Int) else (b : Int) + 9223372036854775808

theorem rank_place (a b : Nat) (ha : a < 18446744073709551616) (hb : b < 18446744073709551616) : rankB a < rankB b ↔ placeB a < placeB b := by
  unfold rankB placeB
  split <;> split <;> omega

def sameB (a b : Nat) : Bool := a == b
def staleB (a : Nat) : Bool := a == 9218868437227405314
theorem beqNat (a b : Nat) : ((a : Int) == (b : Int)) = sameB a b := by
  unfold sameB; rw [Bool.eq_iff_iff]; simp only [beq_iff_eq]; omega
theorem beqStale (a : Nat) : ((a : Int) == 9218868437227405314) = staleB a := by
  unfold staleB; rw [Bool.eq_iff_iff]; simp only [beq_iff_eq]; omega
theorem sameB_refl (a : Nat) : sameB a a = true := by simp [sameB]
end Go.Proofs.Yteiefngamccapaa
