/- Contract of the comparison of two float64 that the exact laws use, at two values of the same bits: it answers true and leaves the world as it is. -/
import Derived.Test.YteiefngamccapaaBase
import Derived.Test.YteiefngamccapaaMath
import Derived.Lib.Hide
namespace Go.Proofs.Yteiefngamccapaa

theorem ret_int {k : IntKind} {a b : Int} (h : a = b) : Ending.returned (.int k a) = .returned (.int k b) := by rw [h]
theorem ret_bool {a b : Bool} (h : a = b) : Ending.returned (.bool a) = .returned (.bool b) := by rw [h]

theorem same26 (a b : Nat) (w : World) : Calls Try.prog 116 #[.float .f64 a, .float .f64 b] w fun e w' => e = .returned (.bool (sameB a b)) ∧ w = w' := by
  go_enter Try.func116, Try.ntmps116
  go_wp2_with (go_at_call 107; refine (bits17 _ _).mono ?_; rintro e w' ⟨rfl, rfl⟩)
  go_ret
  exact ⟨ret_bool (beqNat a b), rfl⟩

theorem same50 (a b : Nat) (w : World) : Calls Try.prog 93 #[.float .f64 a, .float .f64 b] w fun e w' => e = .returned (.bool (sameB a b)) ∧ w = w' := by
  have h := run45
  go_enter Try.func93, Try.ntmps93
  go_wp2
  go_ret
  exact ⟨ret_bool (beqNat a b), rfl⟩

end Go.Proofs.Yteiefngamccapaa
namespace Go.Proofs.Yteiefngamccapaa
open Ieee

theorem read_zero : double.read 0 = .number false 0 (-1074) := by decide +kernel
theorem read_one : double.read 4607182418800017408 = .number false 4503599627370496 (-52) := by decide +kernel

theorem signed_zero {s : Bool} {m k : Nat} (h : signed s m k = 0) : m = 0 := by
  unfold signed at h
  have : m <<< k = 0 := by split at h <;> omega
  rw [Nat.shiftLeft_eq] at this
  rcases Nat.mul_eq_zero.1 this with h | h
  · exact h
  · exact absurd h (Nat.ne_of_gt (Nat.two_pow_pos k))

theorem inv_zero (a : Nat) (h : FloatKind.f64.format.order a 0 = some Ordering.eq) : ∃ r, floatBits .quo .f64 4607182418800017408 a = some r := by
  have h' : Datum.order (double.read a) (double.read 0) = some Ordering.eq := h
  have g : floatBits .quo .f64 4607182418800017408 a = ((double.read 4607182418800017408).quotient (double.fractionBits + 2) (double.read a)).map double.write := rfl
  rw [g, read_one]
  rw [read_zero] at h'
  cases hd : double.read a with
  | nan s t => rw [hd] at h'; simp [Datum.order] at h'
  | infinity s => rw [hd] at h'; cases s <;> simp [Datum.order] at h'
  | number s m i =>
    rw [hd] at h'
    simp only [Datum.order, Option.some.injEq] at h'
    have h2 : signed s m (i - min i (-1074)).toNat = 0 := by
      have h3 := Std.LawfulEqOrd.eq_of_compare h'
      rw [h3]
      simp [signed, Nat.shiftLeft_eq]
    have h4 := signed_zero h2
    subst h4
    exact ⟨_, by simp [Datum.quotient]; rfl⟩
end Go.Proofs.Yteiefngamccapaa
namespace Go.Proofs.Yteiefngamccapaa
theorem same41 (a : Nat) (w : World) : Calls Try.prog 68 #[.float .f64 a, .float .f64 a] w fun e w' => e = .returned (.bool true) ∧ w = w' := by
  by_cases h0 : FloatKind.f64.format.order a 0 = some Ordering.eq
  · obtain ⟨r, hr⟩ := inv_zero a h0
    have hop : ∀ t w, (binOp .quo t (.float .f64 4607182418800017408) (.float .f64 a)).run Try.prog w = .ok (.float .f64 r) w := fun t w => run_float_arith w .quo t .f64 _ a r hr
    clear hr
    go_enter Try.func68, Try.ntmps68
    go_wp2
    all_goals (go_ret; exact ⟨ret_bool (by simp [*]), rfl⟩)
  · go_enter Try.func68, Try.ntmps68
    go_wp2
    all_goals (go_ret; exact ⟨ret_bool (by simp [*]), rfl⟩)
end Go.Proofs.Yteiefngamccapaa
