/- Contracts of KindOf, LessValue, SameValue, IsStale, MarkStale and their like, in the program and in the model, over this seat's translation: what each call returns, with the world unchanged; bits are below 2 to the 64. -/
import Derived.Test.YteiefngamccapaaBase
import Derived.Test.YteiefngamccapaaMath
import Derived.Lib.Hide
namespace Go.Proofs.Yteiefngamccapaa

theorem ret_int {k : IntKind} {a b : Int} (h : a = b) : Ending.returned (.int k a) = .returned (.int k b) := by rw [h]
theorem ret_bool {a b : Bool} (h : a = b) : Ending.returned (.bool a) = .returned (.bool b) := by rw [h]

theorem same26 (a b : Nat) (w : World) : Calls Try.prog 116 #[.float .f64 a, .float .f64 b] w fun e w' => e = .returned (.bool (sameB a b)) ∧ w = w' := by
  go_enter Try.func116, Try.ntmps116
  go_wp2_with (go_at_call 107; refine (bits17 _ _).mono ?_; rintro e w' ⟨rfl, rfl⟩)
  go_ret
  exact ⟨ret_bool (beqNat a b), rfl⟩

theorem same50 (a b : Nat) (w : World) : Calls Try.prog 93 #[.float .f64 a, .float .f64 b] w fun e w' => e = .returned (.bool (sameB a b)) ∧ w = w' := by
  have h := run45
  go_enter Try.func93, Try.ntmps93
  go_wp2
  go_ret
  exact ⟨ret_bool (beqNat a b), rfl⟩

end Go.Proofs.Yteiefngamccapaa
