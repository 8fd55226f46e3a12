/- Contracts of the functions of chapter 4 on numbers alone (a sign laid in, bits turned round), in the program and in the model, over this seat's translation: both sides answer zigN, zagI and flipN; the world is unchanged. -/
import Derived.Test.YteiefngamccapaaProg
import Derived.Test.YteiefngamccapaaVarMath
import Derived.Test.YteiefngamccapaaFlipMath
import Derived.WalkKit
import Derived.ProofKit
import Derived.Laws.Bits64b
import Derived.Laws.DeepNot64
import Derived.KernelRfl
import Derived.Lib.Hide
import Derived.Deep.OwnRows
namespace Go.Proofs.Yteiefngamccapaa
open Go.RowKit

theorem ret_int {k : IntKind} {a b : Int} (h : a = b) : Ending.returned (.int k a) = .returned (.int k b) := by rw [h]
theorem xor_comm64 (a b : Int) : bits .xor .i64 a b = bits .xor .i64 b a := by
  show IntKind.i64.wrap ((BitVec.ofInt 64 a ^^^ BitVec.ofInt 64 b).toNat : Int) = IntKind.i64.wrap ((BitVec.ofInt 64 b ^^^ BitVec.ofInt 64 a).toNat : Int)
  rw [BitVec.xor_comm]
theorem xor_zero64 (a : Nat) (ha : a < 9223372036854775808) : bits .xor .i64 (a : Int) 0 = (a : Int) := by
  show IntKind.i64.wrap ((BitVec.ofInt 64 (a : Int) ^^^ BitVec.ofInt 64 0).toNat : Int) = _
  have e : BitVec.ofInt 64 0 = 0#64 := by decide
  rw [e, BitVec.xor_zero, BitVec.ofInt_natCast, BitVec.toNat_ofNat, Nat.mod_eq_of_lt (by omega)]
  rw [IntKind.wrap_i64]; omega
theorem and_one (u : Nat) (hu : u < 18446744073709551616) : bits .and .u64 (u : Int) 1 = ((u % 2 : Nat) : Int) := by
  have h := bits_and_u64_nat u 1 hu (by decide)
  rw [Nat.and_one_is_mod] at h
  exact h
theorem zig_bits {z : Int} (hz : In64 z) : bits .xor .u64 (IntKind.u64.wrap (IntKind.u64.wrap z * 2)) (IntKind.u64.wrap (z / 9223372036854775808)) = (zigN z : Int) := by
  unfold In64 at hz
  rw [IntKind.wrap_u64, IntKind.wrap_u64, IntKind.wrap_u64]
  unfold zigN
  by_cases h : 0 ≤ z
  · rw [if_pos h]
    have e1 : z % 18446744073709551616 * 2 % 18446744073709551616 = (((2 * z).toNat : Nat) : Int) := by omega
    have e2 : z / 9223372036854775808 % 18446744073709551616 = ((0 : Nat) : Int) := by omega
    rw [e1, e2, bits_xor_u64_nat _ _ (by omega) (by decide), Nat.xor_zero]
  · rw [if_neg h]
    have e1 : z % 18446744073709551616 * 2 % 18446744073709551616 = (((18446744073709551616 + 2 * z).toNat : Nat) : Int) := by omega
    have e2 : z / 9223372036854775808 % 18446744073709551616 = ((18446744073709551615 : Nat) : Int) := by omega
    rw [e1, e2, bits_xor_u64_nat _ _ (by omega) (by decide), xor_ones (by omega)]
    omega
theorem zag_bits {u : Nat} (hu : u < 18446744073709551616) : bits .xor .i64 ((u : Int) / 2) (RowKit.wrap64 (-RowKit.wrap64 (bits .and .u64 (u : Int) 1))) = zagI u := by
  rw [and_one u hu]
  unfold zagI
  have e0 : (u : Int) / 2 = ((u / 2 : Nat) : Int) := by omega
  by_cases h : u % 2 = 0
  · rw [if_pos h, h, e0]
    have e2 : RowKit.wrap64 (-RowKit.wrap64 ((0 : Nat) : Int)) = 0 := by unfold RowKit.wrap64; omega
    rw [e2]
    exact xor_zero64 (u / 2) (by omega)
  · have h1 : u % 2 = 1 := by omega
    rw [if_neg h, h1, e0]
    have e2 : RowKit.wrap64 (-RowKit.wrap64 ((1 : Nat) : Int)) = -1 := by unfold RowKit.wrap64; omega
    rw [e2, xor_comm64, i64_not _ (by omega)]
    omega

theorem zig18 (z : Int) (hz : In64 z) (w : World) : Calls Try.prog 124 #[.int .i64 z] w fun e w' => e = .returned (.int .u64 (zigN z)) ∧ w = w' := by
  have H := Lib.hid hz
  unfold In64 at hz
  go_enter Try.func124, Try.ntmps124
  go_wp2
  go_ret
  exact ⟨ret_int (zig_bits H.out), rfl⟩
theorem zig20 (z : Int) (hz : In64 z) (w : World) : Calls Try.prog 120 #[.int .i64 z] w fun e w' => e = .returned (.int .u64 (zigN z)) ∧ w = w' := by
  have H := Lib.hid hz
  unfold In64 at hz
  go_enter Try.func120, Try.ntmps120
  go_wp2
  go_ret
  exact ⟨ret_int (zig_bits H.out), rfl⟩
theorem zag21 (u : Nat) (hu : u < 18446744073709551616) (w : World) : Calls Try.prog 128 #[.int .u64 u] w fun e w' => e = .returned (.int .i64 (zagI u)) ∧ w = w' := by
  go_enter Try.func128, Try.ntmps128
  go_wp2
  go_ret
  exact ⟨ret_int (zag_bits hu), rfl⟩
theorem zag22 (u : Nat) (hu : u < 18446744073709551616) (w : World) : Calls Try.prog 118 #[.int .u64 u] w fun e w' => e = .returned (.int .i64 (zagI u)) ∧ w = w' := by
  go_enter Try.func118, Try.ntmps118
  go_wp2
  go_ret
  exact ⟨ret_int (zag_bits hu), rfl⟩

theorem swp_int (j M x : Nat) (hx : x < 18446744073709551616) (hM : M < 18446744073709551616) :
    bits .or .u64 (bits .and .u64 ((x : Int) / ((2 ^ j : Nat) : Int)) (M : Int)) (IntKind.u64.wrap (bits .and .u64 (x : Int) (M : Int) * ((2 ^ j : Nat) : Int))) = ((swp j M x : Nat) : Int) := by
  have h1 : x / 2 ^ j < 18446744073709551616 := Nat.lt_of_le_of_lt (Nat.div_le_self _ _) hx
  rw [← Int.natCast_ediv, bits_and_u64_nat _ _ h1 hM, bits_and_u64_nat _ _ hx hM, IntKind.wrap_u64]
  have e : (((x &&& M : Nat) : Int) * ((2 ^ j : Nat) : Int)) % 18446744073709551616 = (((x &&& M) * 2 ^ j % 18446744073709551616 : Nat) : Int) := by
    rw [Int.natCast_emod, Int.natCast_mul]; rfl
  rw [e, bits_or_u64_nat _ _ (Nat.lt_of_le_of_lt Nat.and_le_right hM) (Nat.mod_lt _ (by decide))]
  rfl
theorem half_int (x : Nat) (hx : x < 18446744073709551616) :
    bits .or .u64 ((x : Int) / 4294967296) (IntKind.u64.wrap ((x : Int) * 4294967296)) = ((half x : Nat) : Int) := by
  have h1 : x / 2 ^ 32 < 18446744073709551616 := Nat.lt_of_le_of_lt (Nat.div_le_self _ _) hx
  have e0 : (x : Int) / 4294967296 = ((x / 2 ^ 32 : Nat) : Int) := by omega
  have e : (x : Int) * 4294967296 % 18446744073709551616 = ((x * 2 ^ 32 % 18446744073709551616 : Nat) : Int) := by omega
  rw [IntKind.wrap_u64, e0, e, bits_or_u64_nat _ _ h1 (Nat.mod_lt _ (by decide))]
  rfl
theorem sw0 (x : Nat) (hx : x < 18446744073709551616) : bits .or .u64 (bits .and .u64 ((x : Int) / 2) 6148914691236517205) (IntKind.u64.wrap (bits .and .u64 (x : Int) 6148914691236517205 * 2)) = ((swp 1 m0 x : Nat) : Int) := swp_int 1 m0 x hx (by decide)
theorem sw1 (x : Nat) (hx : x < 18446744073709551616) : bits .or .u64 (bits .and .u64 ((x : Int) / 4) 3689348814741910323) (IntKind.u64.wrap (bits .and .u64 (x : Int) 3689348814741910323 * 4)) = ((swp 2 m1 x : Nat) : Int) := swp_int 2 m1 x hx (by decide)
theorem sw2 (x : Nat) (hx : x < 18446744073709551616) : bits .or .u64 (bits .and .u64 ((x : Int) / 16) 1085102592571150095) (IntKind.u64.wrap (bits .and .u64 (x : Int) 1085102592571150095 * 16)) = ((swp 4 m2 x : Nat) : Int) := swp_int 4 m2 x hx (by decide)
theorem sw3 (x : Nat) (hx : x < 18446744073709551616) : bits .or .u64 (bits .and .u64 ((x : Int) / 256) 71777214294589695) (IntKind.u64.wrap (bits .and .u64 (x : Int) 71777214294589695 * 256)) = ((swp 8 m3 x : Nat) : Int) := swp_int 8 m3 x hx (by decide)
theorem sw4 (x : Nat) (hx : x < 18446744073709551616) : bits .or .u64 (bits .and .u64 ((x : Int) / 65536) 281470681808895) (IntKind.u64.wrap (bits .and .u64 (x : Int) 281470681808895 * 65536)) = ((swp 16 m4 x : Nat) : Int) := swp_int 16 m4 x hx (by decide)
theorem rev58 (u : Nat) (hu : u < 18446744073709551616) (w : World) : Calls Try.prog 131 #[.int .u64 u] w fun e w' => e = .returned (.int .u64 (half (swp 16 m4 (swp 8 m3 u)) : Nat)) ∧ w = w' := by
  go_enter Try.func131, Try.ntmps131
  go_wp2
  go_ret
  refine ⟨ret_int ?_, rfl⟩
  rw [sw3 _ hu, sw4 _ (swp_lt _ _ _ (by decide)), half_int _ (swp_lt _ _ _ (by decide))]
theorem rev40 (u : Nat) (hu : u < 18446744073709551616) (w : World) : Calls Try.prog 127 #[.int .u64 u] w fun e w' => e = .returned (.int .u64 (flipN u)) ∧ w = w' := by
  go_enter Try.func127, Try.ntmps127
  go_wp2_with fail
  rw [sw0 _ hu, sw1 _ (swp_lt _ _ _ (by decide)), sw2 _ (swp_lt _ _ _ (by decide))]
  refine (rev58 _ (swp_lt _ _ _ (by decide)) _).mono ?_
  rintro e w1 ⟨rfl, rfl⟩
  go_wp2
  go_ret
  exact ⟨ret_int (by rw [flip_steps]), rfl⟩
theorem flip19 (u : Nat) (hu : u < 18446744073709551616) (w : World) : Calls Try.prog 109 #[.int .u64 u] w fun e w' => e = .returned (.int .u64 (flipN u)) ∧ w = w' := by
  go_enter Try.func109, Try.ntmps109
  go_wp2_with fail
  refine (rev40 u hu _).mono ?_
  rintro e w1 ⟨rfl, rfl⟩
  go_wp2
  go_ret
  exact ⟨rfl, rfl⟩
theorem rev_step (u : Nat) (hu : u < 18446744073709551616) {k : Nat} (hk : k < 64) : bits .or .u64 (IntKind.u64.wrap ((revN u k : Int) * 2)) (bits .and .u64 ((u : Int) / ((2 ^ k : Nat) : Int)) 1) = (revN u (k + 1) : Int) := by
  have hl := revN_lt u k
  have hp : 2 ^ k ≤ 2 ^ 63 := Nat.pow_le_pow_right (by decide) (by omega)
  have h1 : u / 2 ^ k < 18446744073709551616 := Nat.lt_of_le_of_lt (Nat.div_le_self _ _) hu
  have hm : u / 2 ^ k % 2 < 2 ^ 1 := Nat.mod_lt _ (by decide)
  have e : (revN u k : Int) * 2 % 18446744073709551616 = ((revN u k * 2 ^ 1 : Nat) : Int) := by omega
  rw [← Int.natCast_ediv, and_one _ h1, IntKind.wrap_u64, e, bits_or_u64_nat _ _ (by omega) (by omega), Nat.or_comm, or_parts hm, revN]
  omega
theorem flip23 (u : Nat) (hu : u < 18446744073709551616) (w : World) : Calls Try.prog 99 #[.int .u64 u] w fun e w' => e = .returned (.int .u64 (flipN u)) ∧ w = w' := by
  have HU := Lib.hid hu
  go_enter Try.func99, Try.ntmps99
  go_wp2
  go_loop [3, 4] (fun q i => ∃ k : Nat, k ≤ 64 ∧ i = .int .i64 k ∧ q = .int .u64 (revN u k)) (fun _ i => 64 - (intOf i).toNat)
  case atStart => exact ⟨0, Nat.zero_le _, rfl, rfl⟩
  case round =>
    obtain ⟨k, hk, rfl, rfl⟩ := hrel
    by_cases hlt : k < 64
    · have HS := Lib.hid (rev_step u HU.out hlt)
      go_wp2
      go_round
      case rel => exact ⟨k + 1, by omega, by go_num, by rw [← HS.out]; go_num⟩
      case measure => simp [intOf]; omega
    · obtain rfl : k = 64 := by omega
      go_wp2
      go_ret
      exact ⟨rfl, rfl⟩
end Go.Proofs.Yteiefngamccapaa
