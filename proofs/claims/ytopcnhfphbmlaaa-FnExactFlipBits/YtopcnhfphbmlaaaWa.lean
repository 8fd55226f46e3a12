/- The walks of the laws FnExactZigOf, FnExactZagOf and FnExactFlipBits: each call returns true and leaves the world as it is. -/
import Derived.Test.YtopcnhfphbmlaaaBits
namespace Go.Proofs.Ytopcnhfphbmlaaa
open Go.RowKit

theorem walk_fnExactZigOf (z : Int) (hz : -9223372036854775808 ≤ z ∧ z ≤ 9223372036854775807) (w : World) : Calls Try.prog 7 #[.int .i64 z] w fun e w' => e = .returned (.bool true) ∧ w = w' := by
  have H := Lib.hid hz
  clear hz
  go_enter Try.func7, Try.ntmps7
  go_wp2_with fail
  refine (zig20 z H.out _).mono ?_
  rintro e w1 ⟨rfl, rfl⟩
  go_wp2_with fail
  refine (zig18 z H.out _).mono ?_
  rintro e w1 ⟨rfl, rfl⟩
  go_wp2
  go_ret
  exact ⟨rfl, rfl⟩
theorem walk_fnExactZagOf (z : Int) (hz : 0 ≤ z ∧ z ≤ 18446744073709551615) (w : World) : Calls Try.prog 8 #[.int .u64 z] w fun e w' => e = .returned (.bool true) ∧ w = w' := by
  obtain ⟨u, rfl⟩ := Int.eq_ofNat_of_zero_le hz.1
  have hu : u < 18446744073709551616 := by omega
  clear hz
  go_enter Try.func8, Try.ntmps8
  go_wp2_with fail
  refine (zag22 u hu _).mono ?_
  rintro e w1 ⟨rfl, rfl⟩
  go_wp2_with fail
  refine (zag21 u hu _).mono ?_
  rintro e w1 ⟨rfl, rfl⟩
  go_wp2
  go_ret
  exact ⟨rfl, rfl⟩
theorem walk_fnExactFlipBits (z : Int) (hz : 0 ≤ z ∧ z ≤ 18446744073709551615) (w : World) : Calls Try.prog 11 #[.int .u64 z] w fun e w' => e = .returned (.bool true) ∧ w = w' := by
  obtain ⟨u, rfl⟩ := Int.eq_ofNat_of_zero_le hz.1
  have hu : u < 18446744073709551616 := by omega
  clear hz
  go_enter Try.func11, Try.ntmps11
  go_wp2_with fail
  refine (flip23 u hu _).mono ?_
  rintro e w1 ⟨rfl, rfl⟩
  go_wp2_with fail
  refine (flip19 u hu _).mono ?_
  rintro e w1 ⟨rfl, rfl⟩
  go_wp2
  go_ret
  exact ⟨rfl, rfl⟩
end Go.Proofs.Ytopcnhfphbmlaaa
