/- The walk of the law FnExactValueText: at every value, in a world that holds the library's table, its call returns true and writes nothing that was there. -/
import Derived.Test.YtkpfjjkblfjodaaDoorVal
namespace Go.Proofs.YtkpfjjkblfjodaaDoor
open Go.RowKit Go.Deep

theorem vt5 (u : Nat) (hu : u < 18446744073709551616) (w : World) : Calls Tryd.prog 5 #[.float .f64 u] w fun e w' => e = .returned (.string (hexS u)) ∧ w = w' := by
  have hf := run11
  go_enter Tryd.func5, Tryd.ntmps5
  go_wp2_with (go_at_call 10; refine (hex10 u hu _).mono ?_; rintro e w' ⟨rfl, rfl⟩)
  go_ret
  exact ⟨rfl, rfl⟩

theorem walk_fnExactValueText (u : Nat) (hu : u < 18446744073709551616) (w : World) (h : w.cell? ⟨6, 15, none⟩ = some (.int .u8 4)) (h6 : 6 < w.heap.size) :
    Calls Tryd.prog 3 #[.float .f64 u] w fun e w' => e = .returned (.bool true) ∧ Below w.heap.size w w' := by
  go_enter Tryd.func3, Tryd.ntmps3
  go_wp2_with (go_at_call 5; refine (vt5 u hu _).mono ?_; rintro e w' ⟨rfl, rfl⟩)
  refine (vt6 u hu w h h6).mono ?_
  rintro e w1 ⟨rfl, hb⟩
  have HB := Lib.hid hb; clear hb
  go_wp2
  go_ret
  exact ⟨rfl, HB.out⟩
end Go.Proofs.YtkpfjjkblfjodaaDoor
