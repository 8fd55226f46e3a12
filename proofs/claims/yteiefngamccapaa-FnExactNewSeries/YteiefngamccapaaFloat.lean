/- Plain facts on float64 arithmetic of the model, on bits: one over a zero, what is a NaN, sums. Nothing of the program stands here. -/
import Derived.Test.YteiefngamccapaaMath
namespace Go.Proofs.Yteiefngamccapaa
open Ieee

theorem read_zero : double.read 0 = .number false 0 (-1074) := by decide +kernel
theorem read_one : double.read 4607182418800017408 = .number false 4503599627370496 (-52) := by decide +kernel

theorem signed_zero {s : Bool} {m k : Nat} (h : signed s m k = 0) : m = 0 := by
  unfold signed at h
  have : m <<< k = 0 := by split at h <;> omega
  rw [Nat.shiftLeft_eq] at this
  rcases Nat.mul_eq_zero.1 this with h | h
  · exact h
  · exact absurd h (Nat.ne_of_gt (Nat.two_pow_pos k))

theorem inv_zero (a : Nat) (h : FloatKind.f64.format.order a 0 = some Ordering.eq) : ∃ r, floatBits .quo .f64 4607182418800017408 a = some r := by
  have h' : Datum.order (double.read a) (double.read 0) = some Ordering.eq := h
  have g : floatBits .quo .f64 4607182418800017408 a = ((double.read 4607182418800017408).quotient (double.fractionBits + 2) (double.read a)).map double.write := rfl
  rw [g, read_one]
  rw [read_zero] at h'
  cases hd : double.read a with
  | nan s t => rw [hd] at h'; simp [Datum.order] at h'
  | infinity s => rw [hd] at h'; cases s <;> simp [Datum.order] at h'
  | number s m i =>
    rw [hd] at h'
    simp only [Datum.order, Option.some.injEq] at h'
    have h2 : signed s m (i - min i (-1074)).toNat = 0 := by
      have h3 := Std.LawfulEqOrd.eq_of_compare h'
      rw [h3]
      simp [signed, Nat.shiftLeft_eq]
    have h4 := signed_zero h2
    subst h4
    exact ⟨_, by simp [Datum.quotient]; rfl⟩
end Go.Proofs.Yteiefngamccapaa
