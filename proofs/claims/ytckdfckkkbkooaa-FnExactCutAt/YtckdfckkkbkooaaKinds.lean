/- Contracts of KindOf, LessValue, SameValue, IsStale, MarkStale and their like, in the program and in the model, over this seat's translation: what each call returns, with the world unchanged; bits are below 2 to the 64. -/
import Derived.Test.YtckdfckkkbkooaaBase
import Derived.Test.YtckdfckkkbkooaaMath
import Derived.Lib.Hide
namespace Go.Proofs.Ytckdfckkkbkooaa

theorem ret_int {k : IntKind} {a b : Int} (h : a = b) : Ending.returned (.int k a) = .returned (.int k b) := by rw [h]
theorem ret_bool {a b : Bool} (h : a = b) : Ending.returned (.bool a) = .returned (.bool b) := by rw [h]

theorem same26 (a b : Nat) (w : World) : Calls Try.prog 112 #[.float .f64 a, .float .f64 b] w fun e w' => e = .returned (.bool (sameB a b)) ∧ w = w' := by
  go_enter Try.func112, Try.ntmps112
  go_wp2_with (go_at_call 103; refine (bits17 _ _).mono ?_; rintro e w' ⟨rfl, rfl⟩)
  go_ret
  exact ⟨ret_bool (beqNat a b), rfl⟩

theorem same50 (a b : Nat) (w : World) : Calls Try.prog 113 #[.float .f64 a, .float .f64 b] w fun e w' => e = .returned (.bool (sameB a b)) ∧ w = w' := by
  have h := run45
  go_enter Try.func113, Try.ntmps113
  go_wp2
  go_ret
  exact ⟨ret_bool (beqNat a b), rfl⟩

theorem sameV21 (a b : Nat) (w : World) : Calls Try.prog 79 #[.float .f64 a, .float .f64 b] w fun e w' => e = .returned (.bool (sameB a b)) ∧ w = w' := by
  go_enter Try.func79, Try.ntmps79
  go_wp2_with (go_at_call 106; refine (bits20 _ _).mono ?_; rintro e w' ⟨rfl, rfl⟩)
  go_ret
  exact ⟨ret_bool (beqNat a b), rfl⟩

end Go.Proofs.Ytckdfckkkbkooaa
