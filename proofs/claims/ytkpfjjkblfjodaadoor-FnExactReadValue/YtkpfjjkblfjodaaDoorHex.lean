/- Contracts of the hexadecimal text of a number: FormatUint of base 16, over the door's translation. -/
import Derived.Test.YtkpfjjkblfjodaaDoorProg
import Derived.WalkKit
import Derived.Laws.FloatArith
import Derived.Laws.Externs
import Derived.Laws.Bits64
import Derived.Laws.IdiomStrings
import Derived.KernelRfl
import Derived.Lib.Hide
import Derived.Deep.OwnRows
import Derived.Deep.LoopGhost
namespace Go.Proofs.YtkpfjjkblfjodaaDoor
open Go.RowKit Go.Deep

theorem run11 (b : Nat) (w : World) : (callFunc 11 #[.float .f64 b]).run Tryd.prog w = .ok (.value (.int .u64 b)) w := by
  rw [run_callFunc_extern (e := Extern.MathFloatBits.float64bits) Tryd.func11 (by kernel_rfl) (by kernel_rfl) (by kernel_rfl) (by kernel_rfl)]
  rfl

theorem run15 (n : Int) (w : World) : (callFunc 15 #[.int .u64 n]).run Tryd.prog w = .ok (.value (.float .f64 n.toNat)) w := by
  rw [run_callFunc_extern (e := Extern.MathFloatBits.float64frombits) Tryd.func15 (by kernel_rfl) (by kernel_rfl) (by kernel_rfl) (by kernel_rfl)]
  rfl

theorem bits13 (b : Nat) (w : World) : Calls Tryd.prog 13 #[.float .f64 b] w fun e w' => e = .returned (.int .u64 b) ∧ w = w' := by
  have h := run11
  go_enter Tryd.func13, Tryd.ntmps13
  go_wp2
  go_ret
  exact ⟨rfl, rfl⟩

theorem from17 (n : Int) (w : World) : Calls Tryd.prog 17 #[.int .u64 n] w fun e w' => e = .returned (.float .f64 n.toNat) ∧ w = w' := by
  have h := run15
  go_enter Tryd.func17, Tryd.ntmps17
  go_wp2
  go_ret
  exact ⟨rfl, rfl⟩

theorem pow45 (w : World) : Calls Tryd.prog 45 #[.int .i64 16] w fun e w' => e = .returned (.bool true) ∧ w = w' := by
  have hb : bits BinOp.and IntKind.i64 16 15 = 0 := by decide
  go_enter Tryd.func45, Tryd.ntmps45
  go_wp2
  go_ret
  exact ⟨rfl, rfl⟩

theorem tz53 (w : World) (h : w.cell? ⟨6, 15, none⟩ = some (.int .u8 4)) : Calls Tryd.prog 53 #[.int .u64 16] w fun e w' => e = .returned (.int .i64 4) ∧ w = w' := by
  have hb : bits BinOp.and IntKind.u64 16 (IntKind.u64.wrap (-16)) = 16 := by decide
  have hc : IntKind.u64.wrap (16 * 285870213051353865) = 4573923408821661840 := by decide
  go_enter Tryd.func53, Tryd.ntmps53
  go_wp2
  go_ret
  exact ⟨rfl, rfl⟩

theorem tz46 (w : World) (h : w.cell? ⟨6, 15, none⟩ = some (.int .u8 4)) : Calls Tryd.prog 46 #[.int .u64 16] w fun e w' => e = .returned (.int .i64 4) ∧ w = w' := by
  go_enter Tryd.func46, Tryd.ntmps46
  go_wp2_with (go_at_call 53; refine (tz53 _ h).mono ?_; rintro e w' ⟨rfl, rfl⟩)
  go_ret
  exact ⟨rfl, rfl⟩

/-- The letter of a digit 0 to 15. -/
def hexd (d : Nat) : Nat := if d < 10 then 48 + d else 87 + d

theorem hexd_lt (d : Nat) (h : d < 16) : hexd d < 256 := by unfold hexd; split <;> omega

def digRow (u j p : Nat) : Value := .int .u8 (if 65 - j ≤ p then (hexd (u / 16 ^ (64 - p) % 16) : Int) else 0)

theorem digs_at (d : Nat) (hd : d < 16) (h : d < (ByteArray.mk #[48, 49, 50, 51, 52, 53, 54, 55, 56, 57, 97, 98, 99, 100, 101, 102, 103, 104, 105, 106, 107, 108, 109, 110, 111, 112, 113, 114, 115, 116, 117, 118, 119, 120, 121, 122]).size) :
    ((ByteArray.mk #[48, 49, 50, 51, 52, 53, 54, 55, 56, 57, 97, 98, 99, 100, 101, 102, 103, 104, 105, 106, 107, 108, 109, 110, 111, 112, 113, 114, 115, 116, 117, 118, 119, 120, 121, 122])[d]'h).toNat = hexd d := by
  match d, hd, h with
  | 0, _, _ => rfl
  | 1, _, _ => rfl
  | 2, _, _ => rfl
  | 3, _, _ => rfl
  | 4, _, _ => rfl
  | 5, _, _ => rfl
  | 6, _, _ => rfl
  | 7, _, _ => rfl
  | 8, _, _ => rfl
  | 9, _, _ => rfl
  | 10, _, _ => rfl
  | 11, _, _ => rfl
  | 12, _, _ => rfl
  | 13, _, _ => rfl
  | 14, _, _ => rfl
  | 15, _, _ => rfl
  | n + 16, hd, _ => exact absurd hd (by omega)

theorem more_digits {u j : Nat} (hu : u < 18446744073709551616) (hj : j ≤ 15) (h : 16 ≤ u / 16 ^ j) : j + 1 ≤ 15 := by
  by_cases e : j = 15
  · subst e
    have : (16 : Nat) ^ 15 = 1152921504606846976 := by decide
    rw [this] at h
    omega
  · omega

theorem div_next (u j : Nat) : u / 16 ^ j / 16 = u / 16 ^ (j + 1) := by rw [Nat.div_div_eq_div_mul, Nat.pow_succ]

theorem zero73 (i : Nat) (h : i < 65) : Tryd.zeroCells73[i]? = some (.int .u8 0) := by
  have e : Tryd.zeroCells73 = Array.replicate 65 (.int .u8 0) := by kernel_rfl
  rw [e]; simp [h]

theorem and15 (v : Nat) (hv : v < 18446744073709551616) : bits BinOp.and IntKind.u64 (v : Int) 15 = ((v % 16 : Nat) : Int) := by
  have h := bits_and_u64_nat v 15 (by omega) (by omega)
  rw [show (15 : Nat) = 2 ^ 4 - 1 from rfl, Nat.and_two_pow_sub_one_eq_mod] at h
  exact h

theorem dig_step {w wr : World} {u j : Nat} (hj : j ≤ 15) (hr : wr.rowIs w.heap.size 73 65 (digRow u j)) (hb : Below w.heap.size w wr) :
    (wr.setCell ⟨w.heap.size, 64 - j, none⟩ (.int .u8 (hexd (u / 16 ^ j % 16) : Int))).rowIs w.heap.size 73 65 (digRow u (j + 1)) ∧ Below w.heap.size w (wr.setCell ⟨w.heap.size, 64 - j, none⟩ (.int .u8 (hexd (u / 16 ^ j % 16) : Int))) := by
  refine ⟨(hr.set (64 - j) _).congr fun p hp => ?_, hb.setCell (Nat.le_refl _) _⟩
  by_cases e : p = 64 - j
  · subst e
    rw [if_pos rfl]
    unfold digRow
    rw [if_pos (by omega), show 64 - (64 - j) = j from by omega]
  · rw [if_neg e]
    unfold digRow
    by_cases h1 : 65 - j ≤ p
    · rw [if_pos h1, if_pos (by omega)]
    · rw [if_neg h1, if_neg (by omega)]

theorem addp (b o i : Nat) : (⟨b, o, none⟩ : Addr).add i = ⟨b, o + i, none⟩ := by unfold Addr.add; split <;> simp_all

theorem slice73 (N j : Nat) (hj : j ≤ 15) (W : World) : (Instr.sliceAt 73 (.pointer (some ⟨N, 0, none⟩)) (some (.int .i64 ((64 - j : Nat) : Int))) none none).run Tryd.prog W = .ok (.slice (some ⟨N, 64 - j, none⟩) (j + 1) (j + 1)) W := by
  have ht : Tryd.prog.underlying 73 = some (.array (Tryd.prog.arrayLen 73) (Tryd.prog.elem 73)) := by kernel_rfl
  have hl : Tryd.prog.arrayLen 73 = 65 := by kernel_rfl
  have he : Tryd.prog.elem 73 = 5 := by kernel_rfl
  rw [run_sliceAt_array_l W 73 ⟨N, 0, none⟩ ht .i64 _ (by omega) (by rw [hl]; omega), he, Tryd.sizeOf5]
  simp only [Result.andThen, slicedAt, hl, Int.toNat_natCast, Nat.mul_one]
  rw [if_neg (by omega), addp, show 65 - (64 - j) = j + 1 from by omega]
  simp

/-- The letters of a number of 64 bits, n of them, the highest first. -/
def hexL (u n : Nat) : List UInt8 := (List.range n).map fun p => UInt8.ofNat (hexd (u / 16 ^ (n - 1 - p) % 16))

theorem hexL_length (u n : Nat) : (hexL u n).length = n := by simp [hexL]

theorem conv30 {W : World} {N u j : Nat} (hj : j ≤ 15) (hr : W.rowIs N 73 65 (digRow u (j + 1))) : (convert 44 9 (.slice (some ⟨N, 64 - j, none⟩) (j + 1) (j + 1))).run Tryd.prog W = .ok (.string ⟨(hexL u (j + 1)).toArray⟩) W := by
  have h := run_convert_bytes_back (P := Tryd.prog) W 44 9 5 ⟨N, 64 - j, none⟩ (j + 1) (hexL u (j + 1)) Tryd.underlying44 Tryd.underlying5 Tryd.underlying9 (fun i hi => by
    rw [hexL_length] at hi
    rw [addp, hr.cell (by omega)]
    unfold digRow
    rw [if_pos (by omega)]
    have hd : u / 16 ^ (j + 1 - 1 - i) % 16 < 16 := Nat.mod_lt _ (by decide)
    have hx := hexd_lt _ hd
    simp only [hexL, List.getElem_map, List.getElem_range, UInt8.toNat_ofNat']
    rw [Nat.mod_eq_of_lt hx, show 64 - (64 - j + i) = j + 1 - 1 - i from by omega])
  rw [hexL_length] at h
  exact h

def Fmt30 (u : Nat) (w : World) (e : Ending) (w' : World) : Prop := ∃ n : Nat, 1 ≤ n ∧ n ≤ 16 ∧ u < 16 ^ n ∧ e = .returned (.tuple #[.slice none 0 0, .string ⟨(hexL u n).toArray⟩]) ∧ Below w.heap.size w w'

set_option maxHeartbeats 1000000 in
theorem fmt30 (u : Nat) (hu : u < 18446744073709551616) (w : World) (h : w.cell? ⟨6, 15, none⟩ = some (.int .u8 4)) (h6 : 6 < w.heap.size) :
    Calls Tryd.prog 30 #[.slice none 0 0, .int .u64 u, .int .i64 16, .bool false, .bool false] w (Fmt30 u w) := by
  go_enter Tryd.func30, Tryd.ntmps30
  go_wp2_with (first | (go_at_call 45; refine (pow45 _).mono ?_; rintro e w' ⟨rfl, rfl⟩))
  refine (tz46 _ ?_).mono ?_
  · rw [World.cell?_alloc_lt _ _ _ h6]; exact h
  rintro e w' ⟨rfl, rfl⟩
  go_wp2
  go_loopw [1, 13] (fun uu i wr => ∃ j v : Nat, j ≤ 15 ∧ v < 18446744073709551616 ∧ uu = .int .u64 v ∧ i = .int .i64 ((65 - j : Nat) : Int) ∧ Hid (v = u / 16 ^ j ∧ wr.rowIs w.heap.size 73 65 (digRow u j) ∧ Below w.heap.size w wr)) (fun _ i _ => (intOf i).toNat)
  case atStart => exact ⟨0, u, by omega, hu, rfl, rfl, Lib.hid ⟨by simp, (World.rowIs_alloc _ _ _ (digRow u 0) (fun i hi => by rw [zero73 i hi]; unfold digRow; rw [if_neg (by have : i < 65 := hi; omega)])), (Below.refl _ _).alloc (Nat.le_refl _) _⟩⟩
  case round =>
    obtain ⟨j, v, hj, hv, rfl, rfl, hI⟩ := hrel
    by_cases hge : 16 ≤ v
    · have hand := and15 v hv
      have hfz := hI.out.2.1.frozen (64 - j)
      have hcl := hI.out.2.1.cell (i := 64 - j) (by omega)
      have hd : v % 16 < 16 := Nat.mod_lt _ (by decide)
      generalize hdd : v % 16 = d at hand hd
      have HD := Lib.hid hdd
      clear hdd
      have e1 : ((65 - j : Nat) : Int) - 1 = ((64 - j : Nat) : Int) := by omega
      have hdig := fun h' => digs_at d hd h'
      have e2 : u / 16 ^ j % 16 = d := by rw [← hI.out.1, HD.out]
      have hs := Lib.hid (dig_step hj hI.out.2.1 hI.out.2.2)
      rw [e2] at hs
      have E3 : Hid (v / 16 = u / 16 ^ (j + 1) ∧ j + 1 ≤ 15) := Lib.hid ⟨by rw [hI.out.1, div_next], more_digits hu hj (by rw [← hI.out.1]; exact hge)⟩
      clear e2
      go_wp2
      go_roundw
      case rel => exact ⟨j + 1, v / 16, E3.out.2, by omega, by go_num, by go_num, Lib.hid ⟨E3.out.1, hs.out⟩⟩
      case measure => simp [intOf]; omega
    · have hfz := hI.out.2.1.frozen (64 - j)
      have hcl := hI.out.2.1.cell (i := 64 - j) (by omega)
      have e1 : ((65 - j : Nat) : Int) - 1 = ((64 - j : Nat) : Int) := by omega
      have hdig := fun h' => digs_at v (by omega) h'
      have e2 : u / 16 ^ j % 16 = v := by rw [← hI.out.1]; omega
      have hs := dig_step hj hI.out.2.1 hI.out.2.2
      rw [e2] at hs
      have hsl := slice73 w.heap.size j hj
      have hcv := conv30 hj hs.1
      have HB := Lib.hid hs.2
      have E4 : Hid (u < 16 ^ (j + 1)) := Lib.hid (by
        have h1 : u / 16 ^ j < 16 := by rw [← hI.out.1]; omega
        rw [Nat.pow_succ, Nat.mul_comm]
        exact (Nat.div_lt_iff_lt_mul (Nat.pow_pos (by decide))).1 h1)
      clear e2 hs
      go_wp2
      go_ret2
      exact ⟨j + 1, by omega, by omega, E4.out, rfl, HB.out⟩
end Go.Proofs.YtkpfjjkblfjodaaDoor
