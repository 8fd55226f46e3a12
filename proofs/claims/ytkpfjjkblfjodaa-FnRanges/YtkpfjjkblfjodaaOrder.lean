/- Plain facts on the order of float64: the order by bits and what the comparisons of floats say. Nothing of the program stands here. -/
import Derived.Test.YtkpfjjkblfjodaaSum
namespace Go.Proofs.Ytkpfjjkblfjodaa
open Ieee

theorem place_inj {a b : Nat} (ha : a < 18446744073709551616) (hb : b < 18446744073709551616) (h : placeB a = placeB b) : a = b := by
  unfold placeB at h
  split at h <;> split at h <;> omega

theorem less_irrefl (a : Nat) : lessB a a = false := by
  unfold lessB
  generalize isNan a = p
  cases p <;> simp

theorem less_asymm {a b : Nat} (h : lessB a b = true) : lessB b a = false := by
  unfold lessB at *
  generalize isNan a = p at *
  generalize isNan b = q at *
  cases p <;> cases q <;> simp at * <;> omega

theorem less_total {a b : Nat} (ha : a < 18446744073709551616) (hb : b < 18446744073709551616) (h : lessB a b = false) (h' : lessB b a = false) : a = b := by
  unfold lessB at *
  generalize isNan a = p at *
  generalize isNan b = q at *
  cases p <;> cases q <;> simp at *
  · exact place_inj ha hb (by omega)
  · omega

theorem less_trans {a b c : Nat} (h : lessB a b = true) (h' : lessB b c = true) : lessB a c = true := by
  unfold lessB at *
  generalize isNan a = p at *
  generalize isNan b = q at *
  generalize isNan c = r at *
  cases p <;> cases q <;> cases r <;> simp at * <;> omega

def mOf (r : Nat) : Nat := if r < 4503599627370496 then r else 4503599627370496 + r % 4503599627370496
def eOf (r : Nat) : Nat := r / 4503599627370496 - 1

theorem read_num {b : Nat} (h : b % 9223372036854775808 < 9218868437227405312) :
    double.read b = .number (b / 9223372036854775808 % 2 == 1) (mOf (b % 9223372036854775808)) (-1074 + (eOf (b % 9223372036854775808) : Int)) := by
  rw [read_eq]
  unfold mOf eOf
  split
  · rename_i h1
    rw [Nat.div_eq_of_lt h1]
    simp
  · first | rfl | rw [if_pos h]

theorem mag_mono {r q : Nat} (h : r ≤ q) : eOf r ≤ eOf q ∧ mOf r ≤ mOf q * 2 ^ (eOf q - eOf r) := by
  have he : eOf r ≤ eOf q := Nat.sub_le_sub_right (Nat.div_le_div_right h) 1
  refine ⟨he, ?_⟩
  by_cases heq : eOf r = eOf q
  · rw [heq, Nat.sub_self, Nat.pow_zero, Nat.mul_one]
    unfold eOf at heq
    unfold mOf
    split <;> split <;> omega
  · have h2 : 2 ^ 1 ≤ 2 ^ (eOf q - eOf r) := Nat.pow_le_pow_right (by decide) (by omega)
    have hq : 4503599627370496 ≤ mOf q := by
      unfold eOf at heq he
      unfold mOf
      split <;> omega
    have hr : mOf r < 9007199254740992 := by unfold mOf; split <;> omega
    calc mOf r ≤ 4503599627370496 * 2 ^ 1 := by omega
      _ ≤ mOf q * 2 ^ (eOf q - eOf r) := Nat.mul_le_mul hq h2

theorem signed_le {r q : Nat} (h : r ≤ q) : ((mOf r <<< (((-1074 : Int) + eOf r) - min ((-1074 : Int) + eOf r) ((-1074 : Int) + eOf q)).toNat : Nat) : Int) ≤ ((mOf q <<< (((-1074 : Int) + eOf q) - min ((-1074 : Int) + eOf r) ((-1074 : Int) + eOf q)).toNat : Nat) : Int) := by
  obtain ⟨he, hm⟩ := mag_mono h
  have e1 : (((-1074 : Int) + eOf r) - min ((-1074 : Int) + eOf r) ((-1074 : Int) + eOf q)).toNat = 0 := by omega
  have e2 : (((-1074 : Int) + eOf q) - min ((-1074 : Int) + eOf r) ((-1074 : Int) + eOf q)).toNat = eOf q - eOf r := by omega
  rw [e1, e2, Nat.shiftLeft_eq, Nat.shiftLeft_eq, Nat.pow_zero, Nat.mul_one]
  exact Int.ofNat_le.2 hm

theorem less_gt {a b : Nat} (ha : a < 18446744073709551616) (hb : b < 18446744073709551616) (h : lessB a b = true) : (FloatKind.f64.format.order a b == some Ordering.gt) = false := by
  have g : FloatKind.f64.format.order a b = Datum.order (double.read a) (double.read b) := rfl
  rw [g]
  cases hna : isNan a
  · cases hnb : isNan b
    · have hp : placeB a < placeB b := by simpa [lessB, hna, hnb] using h
      have ha' : ¬ 9218868437227405312 < a % 9223372036854775808 := by simpa [isNan] using hna
      have hb' : ¬ 9218868437227405312 < b % 9223372036854775808 := by simpa [isNan] using hnb
      unfold placeB at hp
      by_cases hia : a % 9223372036854775808 = 9218868437227405312
      · have ea : double.read a = .infinity (a / 9223372036854775808 % 2 == 1) := by rw [read_eq, if_neg (by omega), if_neg (by omega), if_pos hia]
        have hs : (a / 9223372036854775808 % 2 == 1) = true := by
          rw [beq_iff_eq]
          split at hp <;> split at hp <;> omega
        rw [ea, hs]
        by_cases hib : b % 9223372036854775808 = 9218868437227405312
        · have eb : double.read b = .infinity (b / 9223372036854775808 % 2 == 1) := by rw [read_eq, if_neg (by omega), if_neg (by omega), if_pos hib]
          rw [eb]
          cases (b / 9223372036854775808 % 2 == 1) <;> decide
        · rw [read_num (b := b) (by omega)]
          rfl
      · by_cases hib : b % 9223372036854775808 = 9218868437227405312
        · have eb : double.read b = .infinity (b / 9223372036854775808 % 2 == 1) := by rw [read_eq, if_neg (by omega), if_neg (by omega), if_pos hib]
          have hs : (b / 9223372036854775808 % 2 == 1) = false := by
            rw [beq_eq_false_iff_ne]
            split at hp <;> split at hp <;> omega
          rw [eb, hs, read_num (b := a) (by omega)]
          rfl
        · rw [read_num (b := a) (by omega), read_num (b := b) (by omega)]
          simp only [Datum.order]
          have key : signed (a / 9223372036854775808 % 2 == 1) (mOf (a % 9223372036854775808)) (((-1074 : Int) + eOf (a % 9223372036854775808)) - min ((-1074 : Int) + eOf (a % 9223372036854775808)) ((-1074 : Int) + eOf (b % 9223372036854775808))).toNat ≤
              signed (b / 9223372036854775808 % 2 == 1) (mOf (b % 9223372036854775808)) (((-1074 : Int) + eOf (b % 9223372036854775808)) - min ((-1074 : Int) + eOf (a % 9223372036854775808)) ((-1074 : Int) + eOf (b % 9223372036854775808))).toNat := by
            unfold signed
            split at hp
            · have h1 : (a / 9223372036854775808 % 2 == 1) = true := by rw [beq_iff_eq]; omega
              rw [h1]
              split at hp
              · have h2 : (b / 9223372036854775808 % 2 == 1) = true := by rw [beq_iff_eq]; omega
                rw [h2]
                have := signed_le (r := b % 9223372036854775808) (q := a % 9223372036854775808) (by omega)
                rw [Int.min_comm] at this
                simp only [if_true]
                omega
              · have h2 : (b / 9223372036854775808 % 2 == 1) = false := by rw [beq_eq_false_iff_ne]; omega
                rw [h2]
                simp only [if_true, Bool.false_eq_true, if_false]
                exact Int.le_trans (Int.neg_nonpos_of_nonneg (Int.natCast_nonneg _)) (Int.natCast_nonneg _)
            · have h1 : (a / 9223372036854775808 % 2 == 1) = false := by rw [beq_eq_false_iff_ne]; omega
              rw [h1]
              split at hp
              · omega
              · have h2 : (b / 9223372036854775808 % 2 == 1) = false := by rw [beq_eq_false_iff_ne]; omega
                rw [h2]
                simp only [Bool.false_eq_true, if_false]
                exact signed_le (by omega)
          generalize signed (a / 9223372036854775808 % 2 == 1) _ _ = u at key
          generalize signed (b / 9223372036854775808 % 2 == 1) _ _ = v at key
          rw [beq_eq_false_iff_ne]
          intro he
          simp only [Option.some.injEq] at he
          have := Int.compare_eq_gt.1 he
          omega
    · obtain ⟨s, f, e⟩ := read_nan hnb
      rw [e]
      cases double.read a <;> rfl
  · obtain ⟨s, f, e⟩ := read_nan hna
    rw [e]
    rfl

theorem order_self (a : Nat) : (FloatKind.f64.format.order a a != some Ordering.eq) = isNan a := by
  have g : FloatKind.f64.format.order a a = Datum.order (double.read a) (double.read a) := rfl
  rw [g]
  cases hn : isNan a
  · rcases read_plain hn with ⟨s, m, i, e⟩ | ⟨s, e⟩
    · rw [e]; simp [Datum.order]
    · rw [e]; cases s <;> decide
  · obtain ⟨s, f, e⟩ := read_nan hn
    rw [e]
    rfl

theorem order_zero (a : Nat) : (FloatKind.f64.format.order a 0 == some Ordering.eq) = (kindB a == 2) := by
  have g : FloatKind.f64.format.order a 0 = Datum.order (double.read a) (double.read 0) := rfl
  rw [g, read_zero]
  unfold kindB
  by_cases h1 : 9218868437227405312 < a % 9223372036854775808
  · rw [if_pos h1]
    obtain ⟨s, f, e⟩ := read_nan (b := a) (by simp [isNan, h1])
    rw [e]; rfl
  rw [if_neg h1]
  by_cases h2 : a % 9223372036854775808 = 9218868437227405312
  · rw [if_pos h2]
    have ea : double.read a = .infinity (a / 9223372036854775808 % 2 == 1) := by rw [read_eq, if_neg (by omega), if_neg (by omega), if_pos h2]
    rw [ea]
    cases (a / 9223372036854775808 % 2 == 1) <;> decide
  rw [if_neg h2, read_num (b := a) (by omega)]
  by_cases h3 : a % 9223372036854775808 = 0
  · rw [if_pos h3, h3]
    cases (a / 9223372036854775808 % 2 == 1) <;> decide +kernel
  · rw [if_neg h3]
    have hk : ((if a % 9223372036854775808 < 4503599627370496 then (3 : Int) else 4) == 2) = false := by split <;> decide
    rw [hk, beq_eq_false_iff_ne]
    intro he
    simp only [Datum.order, Option.some.injEq] at he
    have h4 := Std.LawfulEqOrd.eq_of_compare he
    have h5 : signed false 0 ((-1074 : Int) - min ((-1074 : Int) + eOf (a % 9223372036854775808)) (-1074)).toNat = 0 := by simp [signed, Nat.shiftLeft_eq]
    rw [h5] at h4
    have h6 := signed_zero h4
    unfold mOf at h6
    split at h6 <;> omega
end Go.Proofs.Ytkpfjjkblfjodaa
