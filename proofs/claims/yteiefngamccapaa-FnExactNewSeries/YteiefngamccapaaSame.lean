/- Contract of the comparison of two float64 that the exact laws use, at two values of the same bits: it answers true and leaves the world as it is. -/
import Derived.Test.YteiefngamccapaaKinds
import Derived.Test.YteiefngamccapaaFloat
namespace Go.Proofs.Yteiefngamccapaa
theorem same41 (a : Nat) (w : World) : Calls Try.prog 68 #[.float .f64 a, .float .f64 a] w fun e w' => e = .returned (.bool true) ∧ w = w' := by
  by_cases h0 : FloatKind.f64.format.order a 0 = some Ordering.eq
  · obtain ⟨r, hr⟩ := inv_zero a h0
    have hop : ∀ t w, (binOp .quo t (.float .f64 4607182418800017408) (.float .f64 a)).run Try.prog w = .ok (.float .f64 r) w := fun t w => run_float_arith w .quo t .f64 _ a r hr
    clear hr
    go_enter Try.func68, Try.ntmps68
    go_wp2
    all_goals (go_ret; exact ⟨ret_bool (by simp [*]), rfl⟩)
  · go_enter Try.func68, Try.ntmps68
    go_wp2
    all_goals (go_ret; exact ⟨ret_bool (by simp [*]), rfl⟩)
end Go.Proofs.Yteiefngamccapaa
