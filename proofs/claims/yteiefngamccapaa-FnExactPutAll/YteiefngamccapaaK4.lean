/- Contracts of the small functions of chapter 1 (bits of a float64), over this seat's translation: what each call returns, with the world unchanged. No conditions but those in each theorem. -/
import Derived.Test.YteiefngamccapaaProg
import Derived.WalkKit
import Derived.Laws.FloatArith
import Derived.Laws.Externs
import Derived.KernelRfl
import Derived.Laws.Bits64
import Derived.Lib.Hide
import Derived.Test.YteiefngamccapaaK3
import Derived.StillTailTactics
import Derived.Test.YteiefngamccapaaK1
import Derived.Deep.RegionHeld3
import Derived.Test.YteiefngamccapaaK2
import Derived.Deep.Slices
import Derived.OpenShut
import Derived.ChangeMaps5
namespace Go.Proofs.Yteiefngamccapaa

theorem run45 (b : Nat) (w : World) : (callFunc 115 #[.float .f64 b]).run Try.prog w = .ok (.value (.int .u64 b)) w := by
  rw [run_callFunc_extern (e := Extern.MathFloatBits.float64bits) Try.func115 (by kernel_rfl) (by kernel_rfl) (by kernel_rfl) (by kernel_rfl)]
  rfl

theorem run46 (n : Int) (w : World) : (callFunc 119 #[.int .u64 n]).run Try.prog w = .ok (.value (.float .f64 n.toNat)) w := by
  rw [run_callFunc_extern (e := Extern.MathFloatBits.float64frombits) Try.func119 (by kernel_rfl) (by kernel_rfl) (by kernel_rfl) (by kernel_rfl)]
  rfl

theorem bits17 (b : Nat) (w : World) : Calls Try.prog 107 #[.float .f64 b] w fun e w' => e = .returned (.int .u64 b) ∧ w = w' := by
  have h := run45
  go_enter Try.func107, Try.ntmps107
  go_wp2
  go_ret
  exact ⟨rfl, rfl⟩

theorem bits20 (b : Nat) (w : World) : Calls Try.prog 102 #[.float .f64 b] w fun e w' => e = .returned (.int .u64 b) ∧ w = w' := by
  have h := run45
  go_enter Try.func102, Try.ntmps102
  go_wp2
  go_ret
  exact ⟨rfl, rfl⟩

theorem from22 (n : Int) (w : World) : Calls Try.prog 114 #[.int .u64 n] w fun e w' => e = .returned (.float .f64 n.toNat) ∧ w = w' := by
  have h := run46
  go_enter Try.func114, Try.ntmps114
  go_wp2
  go_ret
  exact ⟨rfl, rfl⟩

theorem from40 (n : Int) (w : World) : Calls Try.prog 100 #[.int .u64 n] w fun e w' => e = .returned (.float .f64 n.toNat) ∧ w = w' := by
  have h := run46
  go_enter Try.func100, Try.ntmps100
  go_wp2
  go_ret
  exact ⟨rfl, rfl⟩
end Go.Proofs.Yteiefngamccapaa
namespace Go.Proofs.Yteiefngamccapaa

theorem and_mul_pow (a m k : Nat) : a &&& (m * 2 ^ k) = ((a / 2 ^ k) &&& m) * 2 ^ k := by
  apply Nat.eq_of_testBit_eq
  intro i
  simp only [Nat.testBit_and, Nat.testBit_mul_two_pow, Nat.testBit_div_two_pow]
  by_cases h : k ≤ i
  · simp [h]
  · simp [h]

theorem mask_pow (a k : Nat) : a &&& (2 ^ k - 1) = a % 2 ^ k := Nat.and_two_pow_sub_one_eq_mod a k

theorem and_exp (b : Nat) (hb : b < 18446744073709551616) : bits BinOp.and IntKind.u64 (b : Int) 9218868437227405312 = ((b / 4503599627370496 % 2048 * 4503599627370496 : Nat) : Int) := by
  have h := bits_and_u64_nat b 9218868437227405312 (by omega) (by omega)
  have e : (9218868437227405312 : Nat) = 2047 * 2 ^ 52 := by decide
  have e2 : b &&& 9218868437227405312 = b / 4503599627370496 % 2048 * 4503599627370496 := by
    rw [e, and_mul_pow, show (2047 : Nat) = 2 ^ 11 - 1 from rfl, mask_pow]
  rw [e2] at h
  exact h

theorem and_frac (b : Nat) (hb : b < 18446744073709551616) : bits BinOp.and IntKind.u64 (b : Int) 4503599627370495 = ((b % 4503599627370496 : Nat) : Int) := by
  have h := bits_and_u64_nat b 4503599627370495 (by omega) (by omega)
  rw [show (4503599627370495 : Nat) = 2 ^ 52 - 1 from rfl, mask_pow] at h
  exact h

theorem and_pow11 (b : Nat) (hb : b < 18446744073709551616) : bits BinOp.and IntKind.u64 ((b : Int) / 4503599627370496) 2047 = ((b / 4503599627370496 % 2048 : Nat) : Int) := by
  have h := bits_and_u64_nat (b / 4503599627370496) 2047 (by omega) (by omega)
  rw [show (2047 : Nat) = 2 ^ 11 - 1 from rfl, mask_pow] at h
  exact h

theorem and_low63 (b : Nat) (hb : b < 18446744073709551616) : bits BinOp.and IntKind.u64 (b : Int) 9223372036854775807 = ((b % 9223372036854775808 : Nat) : Int) := by
  have h := bits_and_u64_nat b 9223372036854775807 (by omega) (by omega)
  rw [show (9223372036854775807 : Nat) = 2 ^ 63 - 1 from rfl, mask_pow] at h
  exact h

theorem and_sign (b : Nat) (hb : b < 18446744073709551616) : bits BinOp.and IntKind.u64 (b : Int) 9223372036854775808 = ((b / 9223372036854775808 * 9223372036854775808 : Nat) : Int) := by
  have h := bits_and_u64_nat b 9223372036854775808 (by omega) (by omega)
  have e : (9223372036854775808 : Nat) = 1 * 2 ^ 63 := by decide
  have e2 : b &&& 9223372036854775808 = b / 9223372036854775808 * 9223372036854775808 := by
    conv => lhs; rw [e]
    rw [and_mul_pow, Nat.and_one_is_mod]
    have : b / 2 ^ 63 % 2 = b / 9223372036854775808 := by omega
    rw [this]
  rw [e2] at h
  exact h

theorem or_sign (b : Nat) (hb : b < 9223372036854775808) : bits BinOp.or IntKind.u64 (b : Int) 9223372036854775808 = ((b + 9223372036854775808 : Nat) : Int) := by
  have h := bits_or_u64_nat b 9223372036854775808 (by omega) (by omega)
  have e2 : b ||| 9223372036854775808 = b + 9223372036854775808 := by
    rw [Nat.or_comm]
    have := Nat.two_pow_add_eq_or_of_lt (i := 63) (b := b) (by omega) 1
    show 2 ^ 63 * 1 ||| b = _
    rw [← this]
    omega
  rw [e2] at h
  exact h

theorem xor_max (b : Nat) (hb : b < 18446744073709551616) : bits BinOp.xor IntKind.u64 IntKind.u64.max (b : Int) = ((18446744073709551615 - b : Nat) : Int) := by
  have h := bits_xor_u64_nat 18446744073709551615 b (by omega) (by omega)
  have e2 : 18446744073709551615 ^^^ b = 18446744073709551615 - b := by
    have h1 : (BitVec.allOnes 64 ^^^ BitVec.ofNat 64 b) = ~~~ (BitVec.ofNat 64 b) := (BitVec.not_def).symm
    have h2 := congrArg BitVec.toNat h1
    rw [BitVec.toNat_xor, BitVec.toNat_not, BitVec.toNat_allOnes, BitVec.toNat_ofNat, Nat.mod_eq_of_lt hb] at h2
    exact h2
  rw [e2] at h
  exact h

/-- The kind of a value by its bits: 0 a NaN, 1 an infinity, 2 a zero, 3 not normalized, 4 any other. -/
def kindB (b : Nat) : Int :=
  if 9218868437227405312 < b % 9223372036854775808 then 0
  else if b % 9223372036854775808 = 9218868437227405312 then 1
  else if b % 9223372036854775808 = 0 then 2
  else if b % 9223372036854775808 < 4503599627370496 then 3
  else 4

def isNan (b : Nat) : Bool := decide (9218868437227405312 < b % 9223372036854775808)

theorem kindB_zero (b : Nat) : (kindB b == 0) = isNan b := by
  unfold kindB isNan
  repeat' split
  all_goals simp <;> omega

/-- The place of a value that is no NaN. -/
def placeB (b : Nat) : Int := if 9223372036854775808 ≤ b then -((b % 9223372036854775808 : Nat) : Int) - 1 else (b : Int)

def lessB (a b : Nat) : Bool :=
  if isNan a then isNan b && decide (a < b) else isNan b || decide (placeB a < placeB b)

/-- The program's own rank. -/
def rankB (b : Nat) : Int := if 9223372036854775808 ≤ b then 18446744073709551615 - (b : Int) else (b : Int) + 9223372036854775808

theorem rank_place (a b : Nat) (ha : a < 18446744073709551616) (hb : b < 18446744073709551616) : rankB a < rankB b ↔ placeB a < placeB b := by
  unfold rankB placeB
  split <;> split <;> omega

def sameB (a b : Nat) : Bool := a == b
def staleB (a : Nat) : Bool := a == 9218868437227405314
theorem beqNat (a b : Nat) : ((a : Int) == (b : Int)) = sameB a b := by
  unfold sameB; rw [Bool.eq_iff_iff]; simp only [beq_iff_eq]; omega
theorem beqStale (a : Nat) : ((a : Int) == 9218868437227405314) = staleB a := by
  unfold staleB; rw [Bool.eq_iff_iff]; simp only [beq_iff_eq]; omega
theorem sameB_refl (a : Nat) : sameB a a = true := by simp [sameB]
end Go.Proofs.Yteiefngamccapaa
namespace Go.Proofs.Yteiefngamccapaa


theorem same26 (a b : Nat) (w : World) : Calls Try.prog 116 #[.float .f64 a, .float .f64 b] w fun e w' => e = .returned (.bool (sameB a b)) ∧ w = w' := by
  go_enter Try.func116, Try.ntmps116
  go_wp2_with (go_at_call 107; refine (bits17 _ _).mono ?_; rintro e w' ⟨rfl, rfl⟩)
  go_ret
  exact ⟨ret_bool (beqNat a b), rfl⟩

theorem same50 (a b : Nat) (w : World) : Calls Try.prog 93 #[.float .f64 a, .float .f64 b] w fun e w' => e = .returned (.bool (sameB a b)) ∧ w = w' := by
  have h := run45
  go_enter Try.func93, Try.ntmps93
  go_wp2
  go_ret
  exact ⟨ret_bool (beqNat a b), rfl⟩

end Go.Proofs.Yteiefngamccapaa
namespace Go.Proofs.Yteiefngamccapaa
open Ieee

theorem read_zero : double.read 0 = .number false 0 (-1074) := by decide +kernel
theorem read_one : double.read 4607182418800017408 = .number false 4503599627370496 (-52) := by decide +kernel

theorem signed_zero {s : Bool} {m k : Nat} (h : signed s m k = 0) : m = 0 := by
  unfold signed at h
  have : m <<< k = 0 := by split at h <;> omega
  rw [Nat.shiftLeft_eq] at this
  rcases Nat.mul_eq_zero.1 this with h | h
  · exact h
  · exact absurd h (Nat.ne_of_gt (Nat.two_pow_pos k))

theorem inv_zero (a : Nat) (h : FloatKind.f64.format.order a 0 = some Ordering.eq) : ∃ r, floatBits .quo .f64 4607182418800017408 a = some r := by
  have h' : Datum.order (double.read a) (double.read 0) = some Ordering.eq := h
  have g : floatBits .quo .f64 4607182418800017408 a = ((double.read 4607182418800017408).quotient (double.fractionBits + 2) (double.read a)).map double.write := rfl
  rw [g, read_one]
  rw [read_zero] at h'
  cases hd : double.read a with
  | nan s t => rw [hd] at h'; simp [Datum.order] at h'
  | infinity s => rw [hd] at h'; cases s <;> simp [Datum.order] at h'
  | number s m i =>
    rw [hd] at h'
    simp only [Datum.order, Option.some.injEq] at h'
    have h2 : signed s m (i - min i (-1074)).toNat = 0 := by
      have h3 := Std.LawfulEqOrd.eq_of_compare h'
      rw [h3]
      simp [signed, Nat.shiftLeft_eq]
    have h4 := signed_zero h2
    subst h4
    exact ⟨_, by simp [Datum.quotient]; rfl⟩
end Go.Proofs.Yteiefngamccapaa
namespace Go.Proofs.Yteiefngamccapaa
theorem same41 (a : Nat) (w : World) : Calls Try.prog 68 #[.float .f64 a, .float .f64 a] w fun e w' => e = .returned (.bool true) ∧ w = w' := by
  by_cases h0 : FloatKind.f64.format.order a 0 = some Ordering.eq
  · obtain ⟨r, hr⟩ := inv_zero a h0
    have hop : ∀ t w, (binOp .quo t (.float .f64 4607182418800017408) (.float .f64 a)).run Try.prog w = .ok (.float .f64 r) w := fun t w => run_float_arith w .quo t .f64 _ a r hr
    clear hr
    go_enter Try.func68, Try.ntmps68
    go_wp2
    all_goals (go_ret; exact ⟨ret_bool (by simp [*]), rfl⟩)
  · go_enter Try.func68, Try.ntmps68
    go_wp2
    all_goals (go_ret; exact ⟨ret_bool (by simp [*]), rfl⟩)
end Go.Proofs.Yteiefngamccapaa
namespace Go.Proofs.Yteiefngamccapaa
open Go.RowKit Go.Deep

theorem sz50 (ao : Option Addr) (n c : Nat) (hn : n ≤ maxLen) (left : Int) (h0 : 0 ≤ left) (h1 : left ≤ 1048576) (w : World) :
    Calls Try.prog 24 #[.slice ao n c, .int .i64 left] w fun e w' => (∃ r : Int, e = .returned (.int .i64 r) ∧ r ≤ left ∧ ((r = -1 ∧ left < n) ∨ (0 ≤ r ∧ (n : Int) ≤ left))) ∧ w' = w := by
  unfold maxLen at hn
  by_cases c1 : left < n
  · go_enter Try.func24, Try.ntmps24
    go_wp2
    go_ret
    exact ⟨⟨-1, rfl, by omega, .inl ⟨rfl, c1⟩⟩, rfl⟩
  · go_enter Try.func24, Try.ntmps24
    go_wp2
    go_ret
    exact ⟨⟨_, rfl, by omega, by omega⟩, rfl⟩

theorem to55 (a : Int) (b : Nat) (w : World) : Calls Try.prog 22 #[.agg #[.int .i64 a, .float .f64 b]] w fun e w' => e = .returned (.agg #[.int .i64 a, .float .f64 b]) ∧ Below w.heap.size w w' := by
  have hst := @run_store_float Try.prog
  go_enter Try.func22, Try.ntmps22
  go_wp2
  exact bodyPost_ret (v := .agg #[.int .i64 a, .float .f64 b]) (by simp [results, Try.results22, go_sem]) rfl ⟨rfl, (((Below.refl _ _).alloc (Nat.le_refl _) _).alloc (by simp) _).alloc (by simp; omega) _⟩

/-- What a copy comes to: a row of the call's own that holds the samples. -/
def Made (base : Nat) (l : List Smp) (w : World) (e : Ending) (w' : World) : Prop :=
  ∃ v, e = .returned v ∧ w'.ownsRow base 42 2 v l.length (cellsS l) ∧ Below w.heap.size w w'
theorem made_srow {w w' : World} {base : Nat} {l : List Smp} {e : Ending} (h : Made base l w e w') : ∃ ao c, e = .returned (.slice ao l.length c) ∧ w'.ownsRow base 42 2 (.slice ao l.length c) l.length (cellsS l) ∧ SRow w' w'.heap.size ao l ∧ Below w.heap.size w w' := by
  obtain ⟨v, rfl, ho, hb⟩ := h
  obtain ⟨ao, c, rfl⟩ := own_slice ho
  exact ⟨ao, c, rfl, ho, (SRow.of_own ho).2, hb⟩

set_option maxHeartbeats 1000000 in
theorem to51 (ao : Option Addr) (cap : Nat) (l : List Smp) (hn : l.length ≤ 1048576) (w : World) (h : SRow w w.heap.size ao l) :
    Calls Try.prog 26 #[.slice ao l.length cap] w (Made w.heap.size l w) := by
  have H := Lib.hid h
  clear h
  have hst := @run_store_float Try.prog
  obtain ⟨i0, hi0, hz0, hz1, hz2⟩ := info_parts Try.info42
  go_enter Try.func26, Try.ntmps26
  go_wp2_with (refine wpList_make_full _ rfl (.tmp 6) (.tmp 6) 50 rfl w.heap.size 42 i0 _ 2 Try.underlying50 hi0 hz0 hz1 _ _ _ _ l.length rfl rfl rfl rfl (by rw [hz2]; omega) (by unfold maxLen; omega) (Nat.le_refl _) ?_; intro w1 hown1 hg1; have HO := Lib.hid hown1; have HG := Lib.hid hg1; clear hown1 hg1)
  go_loopw [4] (fun i wr => ∃ k : Nat, k ≤ l.length ∧ i = .int .i64 k ∧ Hid (Laid w.heap.size w.heap.size l.length l k wr) ∧ Hid (Below w.heap.size w wr)) (fun i _ => l.length - (intOf i).toNat)
  case atStart => exact ⟨0, Nat.zero_le _, rfl, ⟨_, HO.out, by simp [cellsS]⟩, (Below.refl _ _).grown HG.out (Nat.le_refl _) (fun _ h => by cases h)⟩
  case round =>
    obtain ⟨k, hk, rfl, hL, hb⟩ := hrel
    by_cases hlt : k < l.length
    · obtain ⟨b, off, hao, hbl, hc⟩ := H.out (by omega)
      subst hao
      have c0 := (hb.out.cell (p := ⟨b, off + k * 2, none⟩) hbl).trans (hc k hlt).1
      have c1' := (hb.out.cell (p := ⟨b, off + k * 2 + 1, none⟩) hbl).trans (hc k hlt).2
      have HS := Lib.hid (fun (w1 : World) (h : Laid w.heap.size w.heap.size l.length l k w1) => h.step hlt)
      clear hc
      generalize l[k] = x at c0 c1' HS
      obtain ⟨x1, x2⟩ := x
      go_wp2_with fail
      refine (to55 x1 x2 _).mono ?_
      rintro e w2 ⟨rfl, hb2⟩
      have HL := Lib.hid (hL.out.below hb2)
      have HB := Lib.hid (hb.out.trans (hb2.mono hb.out.size))
      clear hb2
      obtain ⟨⟨u1, t1⟩, ⟨u2, t2⟩, f1, f2⟩ := HL.out.at hlt
      go_wp2
      go_roundw
      case rel => exact ⟨k + 1, by omega, by go_num, HS.out _ HL.out, (HB.out.setCell (Nat.le_refl _) _).setCell (Nat.le_refl _) _⟩
      case measure => simp [intOf]; omega
    · obtain rfl : k = l.length := by omega
      go_wp2
      go_ret
      exact ⟨_, rfl, hL.out.done, hb.out⟩

theorem eq91 (a : Int) (b : Nat) (w : World) : Calls Try.prog 42 #[.agg #[.int .i64 a, .float .f64 b], .agg #[.int .i64 a, .float .f64 b]] w fun e w' => e = .returned (.bool true) ∧ Below w.heap.size w w' := by
  go_enter Try.func42, Try.ntmps42
  go_wp2_with (go_at_call 68; refine (same41 _ _).mono ?_; rintro e w' ⟨rfl, rfl⟩)
  go_ret
  exact ⟨rfl, ((Below.refl _ _).alloc (Nat.le_refl _) _).alloc (by simp) _⟩

set_option maxHeartbeats 1000000 in
set_option maxRecDepth 100000 in
theorem eq52 (ao bo : Option Addr) (c d : Nat) (l : List Smp) (hn : l.length ≤ 1048576) (w : World) (ha : SRow w w.heap.size ao l) (hb : SRow w w.heap.size bo l) :
    Calls Try.prog 29 #[.slice ao l.length c, .slice bo l.length d] w fun e w' => e = .returned (.bool true) ∧ Below w.heap.size w w' := by
  have HA := Lib.hid ha
  have HB := Lib.hid hb
  clear ha hb
  go_enter Try.func29, Try.ntmps29
  go_wp2
  go_loopw [5] (fun i wr => ∃ k : Nat, k ≤ l.length ∧ i = .int .i64 k ∧ Hid (Below w.heap.size w wr)) (fun i _ => l.length - (intOf i).toNat)
  case atStart => exact ⟨0, Nat.zero_le _, rfl, Below.refl _ _⟩
  case round =>
    obtain ⟨k, hk, rfl, hb⟩ := hrel
    by_cases hlt : k < l.length
    · obtain ⟨b, off, hao, hbl, hc⟩ := HA.out (by omega)
      obtain ⟨b', off', hao', hbl', hc'⟩ := HB.out (by omega)
      subst hao hao'
      have c0 := (hb.out.cell (p := ⟨b, off + k * 2, none⟩) hbl).trans (hc k hlt).1
      have c1 := (hb.out.cell (p := ⟨b, off + k * 2 + 1, none⟩) hbl).trans (hc k hlt).2
      have d0 := (hb.out.cell (p := ⟨b', off' + k * 2, none⟩) hbl').trans (hc' k hlt).1
      have d1 := (hb.out.cell (p := ⟨b', off' + k * 2 + 1, none⟩) hbl').trans (hc' k hlt).2
      clear hc hc'
      generalize l[k] = x at c0 c1 d0 d1
      obtain ⟨x1, x2⟩ := x
      go_wp2
      go_still_tail 8, (by kernel_rfl)
      change wpList _ _ _ _ _ wr.drew
      have HB2 := Lib.hid hb.out.drew
      go_wp2_with fail
      refine (eq91 x1 x2 _).mono ?_
      rintro e w2 ⟨rfl, hb2⟩
      have HB3 := Lib.hid (HB2.out.trans (hb2.mono HB2.out.size))
      clear hb2
      go_wp2
      go_roundw
      case rel => exact ⟨k + 1, by omega, by go_num, HB3⟩
      case measure => simp [intOf]; omega
    · go_wp2
      go_ret
      exact ⟨rfl, hb.out⟩

def chV (c : Chk) : Value := .agg #[.string c.1, .int .i64 c.2.1, .int .i64 c.2.2.1, .int .i64 c.2.2.2]

theorem sz53 (s : ByteArray) (a b c : Int) (hs : s.size ≤ maxLen) (left : Int) (h0 : 0 ≤ left) (h1 : left ≤ 1048576) (w : World) :
    Calls Try.prog 72 #[.agg #[.string s, .int .i64 a, .int .i64 b, .int .i64 c], .int .i64 left] w fun e w' => (∃ r : Int, e = .returned (.int .i64 r) ∧ r ≤ left ∧ ((r = -1 ∧ left < s.size) ∨ (0 ≤ r ∧ (s.size : Int) ≤ left))) ∧ Below w.heap.size w w' := by
  unfold maxLen at hs
  by_cases c1 : left < s.size
  · go_enter Try.func72, Try.ntmps72
    go_wp2
    go_ret
    exact ⟨⟨-1, rfl, by omega, .inl ⟨rfl, c1⟩⟩, (Below.refl _ _).alloc (Nat.le_refl _) _⟩
  · go_enter Try.func72, Try.ntmps72
    go_wp2
    go_ret
    exact ⟨⟨_, rfl, by omega, by omega⟩, (Below.refl _ _).alloc (Nat.le_refl _) _⟩

theorem to54 (s : ByteArray) (a b c : Int) (w : World) : Calls Try.prog 75 #[.agg #[.string s, .int .i64 a, .int .i64 b, .int .i64 c]] w fun e w' => e = .returned (.agg #[.string s, .int .i64 a, .int .i64 b, .int .i64 c]) ∧ Below w.heap.size w w' := by
  go_enter Try.func75, Try.ntmps75
  go_wp2
  exact bodyPost_ret (v := .agg #[.string s, .int .i64 a, .int .i64 b, .int .i64 c]) (by simp [results, Try.results75, go_sem]) rfl ⟨rfl, (((Below.refl _ _).alloc (Nat.le_refl _) _).alloc (by simp) _).alloc (by simp; omega) _⟩

theorem eq56 (s : ByteArray) (a b c : Int) (w : World) : Calls Try.prog 77 #[.agg #[.string s, .int .i64 a, .int .i64 b, .int .i64 c], .agg #[.string s, .int .i64 a, .int .i64 b, .int .i64 c]] w fun e w' => e = .returned (.bool true) ∧ Below w.heap.size w w' := by
  go_enter Try.func77, Try.ntmps77
  go_wp2
  go_ret
  exact ⟨rfl, ((Below.refl _ _).alloc (Nat.le_refl _) _).alloc (by simp) _⟩
end Go.Proofs.Yteiefngamccapaa
namespace Go.Proofs.Yteiefngamccapaa
open Go.RowKit Go.Deep

def digit (n : Nat) : UInt8 := UInt8.ofNat (48 + n % 10)
def digs (k : Nat) (acc : List UInt8) : List UInt8 := if h : k = 0 then acc else digs (k / 10) (digit k :: acc)
termination_by k
decreasing_by omega
/-- The mark of a number. -/
def mk (k : Nat) : ByteArray := if k = 0 then ⟨#[109, 48]⟩ else ⟨(109 :: digs k []).toArray⟩

theorem digs_step {k : Nat} (h : 0 < k) (acc : List UInt8) : digs k acc = digs (k / 10) (digit k :: acc) := by
  rw [digs, dif_neg (by omega)]
theorem digs_zero (acc : List UInt8) : digs 0 acc = acc := by rw [digs, dif_pos rfl]

theorem conv_one (w : World) (n : Int) : (convert 117 9 (.slice (some ⟨w.heap.size, 0, none⟩) 1 1)).run Try.prog (w.alloc (.cells #[.int .u8 n] 5)) = .ok (.string ⟨#[UInt8.ofNat n.toNat]⟩) (w.alloc (.cells #[.int .u8 n] 5)) := by
  rw [run_convert_bytes_string _ 117 9 5 _ 1 1 Try.underlying117 Try.underlying5 Try.underlying9, run_bytesToString _ _ 1 1 [n] (by simp [go_sem])]
  rfl
theorem digit_eq (j : Nat) : UInt8.ofNat ((48 : Int) + (j : Int) % 10).toNat = digit j := by
  unfold digit
  congr 1
theorem ret_strm {a b : ByteArray} (h : a = b) : Ending.returned (.string b) = .returned (.string a) := by rw [h]
theorem cons_str (d : UInt8) (acc : List UInt8) : (⟨#[d]⟩ : ByteArray) ++ ⟨acc.toArray⟩ = ⟨(d :: acc).toArray⟩ := by
  rw [ByteArray.mk_append_mk]; simp

set_option maxHeartbeats 1000000 in
set_option maxRecDepth 100000 in
theorem mark86 (k : Nat) (hk : k ≤ 8388608) (w : World) : Calls Try.prog 78 #[.int .i64 k] w fun e w' => e = .returned (.string (mk k)) ∧ Below w.heap.size w w' := by
  by_cases h0 : k = 0
  · subst h0
    go_enter Try.func78, Try.ntmps78
    go_wp2
    go_ret
    exact ⟨rfl, Below.refl _ _⟩
  have hp : 0 < k := by omega
  go_enter Try.func78, Try.ntmps78
  go_wp2
  go_loopw [0, 3] (fun i s wr => ∃ (j : Nat) (acc : List UInt8), j ≤ 8388608 ∧ i = .int .i64 j ∧ s = .string ⟨acc.toArray⟩ ∧ Hid (digs j acc = digs k []) ∧ acc.length + j ≤ 8388608 ∧ Hid (Below w.heap.size w wr)) (fun i _ _ => (intOf i).toNat)
  case atStart => exact ⟨k, [], hk, rfl, rfl, rfl, by simp; omega, Below.refl _ _⟩
  case round =>
    obtain ⟨j, acc, hj, rfl, rfl, hd, hl, hb⟩ := hrel
    by_cases hlt : 0 < j
    · have hcv := conv_one wr ((48 : Int) + (j : Int) % 10)
      have hdg := digit_eq j
      have hcs := cons_str (digit j) acc
      have HD := Lib.hid ((digs_step hlt acc).symm.trans hd.out)
      go_wp2
      go_roundw
      case rel => exact ⟨j / 10, digit j :: acc, by omega, by go_num, rfl, HD, by simp; omega, hb.out.alloc hb.out.size _⟩
      case measure => simp [intOf]; omega
    · obtain rfl : j = 0 := by omega
      have HD := Lib.hid ((digs_zero acc).symm.trans hd.out)
      have hcs := cons_str 109 acc
      go_wp2
      go_ret
      exact ⟨ret_strm (by rw [mk, if_neg h0, HD.out]), hb.out⟩

theorem mark86i (z : Int) (k : Nat) (hz : z = (k : Int)) (hk : k ≤ 8388608) (w : World) : Calls Try.prog 78 #[.int .i64 z] w fun e w' => e = .returned (.string (mk k)) ∧ Below w.heap.size w w' := by
  subst hz; exact mark86 k hk w
end Go.Proofs.Yteiefngamccapaa
namespace Go.Proofs.Yteiefngamccapaa
open Go.RowKit Go.Deep

def cC (c : Chk) : List Value := [.string c.1, .int .i64 c.2.1, .int .i64 c.2.2.1, .int .i64 c.2.2.2]
theorem cC_len (c : Chk) : (cC c).length = 4 := rfl
theorem cC_one {l : List Chk} : ∀ u ∈ cellsG cC l, u.oneCell' = true := by
  intro u hu
  simp [cellsG, cC] at hu
  obtain ⟨s, a, b, c, _, rfl | rfl | rfl | rfl⟩ := hu <;> rfl
abbrev CRow (w : World) (B : Nat) (ao : Option Addr) (l : List Chk) : Prop := GR 4 cC w B ao l
theorem GR.oneC {w : World} {B : Nat} {ao : Option Addr} {l : List Chk} {k : Nat} (h : GR 4 cC w B ao l) (hk : k < l.length) : ∃ b off, ao = some ⟨b, off, none⟩ ∧ b < B ∧
    w.cell? ⟨b, off + k * 4, none⟩ = some (.string (l[k]'hk).1) ∧ w.cell? ⟨b, off + k * 4 + 1, none⟩ = some (.int .i64 (l[k]'hk).2.1) ∧ w.cell? ⟨b, off + k * 4 + 2, none⟩ = some (.int .i64 (l[k]'hk).2.2.1) ∧ w.cell? ⟨b, off + k * 4 + 3, none⟩ = some (.int .i64 (l[k]'hk).2.2.2) := by
  obtain ⟨b, off, e, hb, hc⟩ := h (by omega)
  exact ⟨b, off, e, hb, hc k hk 0 _ rfl, hc k hk 1 _ rfl, hc k hk 2 _ rfl, hc k hk 3 _ rfl⟩
/-- The texts of chunks are not long. -/
def FitC (l : List Chk) (m : Nat) : Prop := ∀ c ∈ l, c.1.size ≤ m
theorem FitC.at {l : List Chk} {m : Nat} (h : FitC l m) {k : Nat} (hk : k < l.length) : (l[k]'hk).1.size ≤ m := h _ (List.getElem_mem hk)
def fitTo (l : List Chk) (m k : Nat) : Prop := ∀ i (h : i < l.length), i < k → (l[i]'h).1.size ≤ m
theorem fitTo_zero (l : List Chk) (m : Nat) : fitTo l m 0 := fun i _ h => absurd h (by omega)
theorem fitTo_succ {l : List Chk} {m k : Nat} (h : fitTo l m k) (hk : ∀ h : k < l.length, (l[k]'h).1.size ≤ m) : fitTo l m (k + 1) := fun i hi hik => by
  by_cases e : i = k
  · subst e; exact hk hi
  · exact h i hi (by omega)
theorem fitTo_all {l : List Chk} {m : Nat} (h : fitTo l m l.length) : FitC l m := fun c hc => by
  obtain ⟨i, hi, rfl⟩ := List.getElem_of_mem hc
  exact h i hi hi

set_option maxHeartbeats 2000000 in
set_option maxRecDepth 100000 in
theorem szCs (ao : Option Addr) (cap : Nat) (l : List Chk) (hn : l.length ≤ maxLen) (hm : FitC l maxLen) (left : Int) (h0 : 0 ≤ left) (h1 : left ≤ 1048576) (w : World) (h : CRow w w.heap.size ao l) :
    Calls Try.prog 45 #[.slice ao l.length cap, .int .i64 left] w fun e w' => (∃ r : Int, e = .returned (.int .i64 r) ∧ r ≤ left ∧ (r = -1 ∨ (0 ≤ r ∧ l.length ≤ 1048576 ∧ FitC l 1048576))) ∧ Below w.heap.size w w' := by
  unfold maxLen at hn
  have H := Lib.hid h
  have HM := Lib.hid hm
  clear h hm
  by_cases c1 : left < l.length
  · go_enter Try.func45, Try.ntmps45
    go_wp2
    go_ret
    exact ⟨⟨-1, rfl, by omega, .inl rfl⟩, Below.refl _ _⟩
  go_enter Try.func45, Try.ntmps45
  go_wp2
  go_loopw [1, 5] (fun q i wr => ∃ (k : Nat) (r : Int), k ≤ l.length ∧ i = .int .i64 k ∧ q = .int .i64 r ∧ 0 ≤ r ∧ r ≤ left ∧ Hid (fitTo l 1048576 k) ∧ Hid (Below w.heap.size w wr)) (fun _ i _ => l.length - (intOf i).toNat)
  case atStart => exact ⟨0, _, Nat.zero_le _, rfl, rfl, by omega, by omega, Lib.hid (fitTo_zero l _), Lib.hid (Below.refl _ _)⟩
  case round =>
    obtain ⟨k, r, hk, rfl, rfl, hr0, hr1, hF, hB⟩ := hrel
    by_cases hlt : k < l.length
    · obtain ⟨b, off, hao, hbl, hc0, hc1, hc2, hc3⟩ := (H.out.below hB.out).oneC hlt
      subst hao
      have hsz := HM.out.at hlt
      have HS := Lib.hid (fun (h : l[k].1.size ≤ 1048576) => fitTo_succ hF.out (fun _ : k < l.length => h))
      generalize l[k] = x at hc0 hc1 hc2 hc3 hsz HS
      obtain ⟨s, x1, x2, x3⟩ := x
      simp only at hc0 hc1 hc2 hc3 hsz HS
      go_wp2_with fail
      refine (sz53 s x1 x2 x3 hsz r hr0 (by omega) _).mono ?_
      rintro e w1 ⟨⟨r', rfl, hrl, hr⟩, hb1⟩
      have HB1 := Lib.hid (hB.out.trans (hb1.mono hB.out.size))
      clear hb1 hc0 hc1 hc2 hc3
      rcases hr with ⟨rfl, hbig⟩ | ⟨hr0', hsm⟩
      · go_wp2
        go_ret
        exact ⟨⟨-1, rfl, by omega, .inl rfl⟩, HB1.out⟩
      · have HS2 := Lib.hid (HS.out (by omega))
        go_wp2
        go_roundw
        case rel => exact ⟨k + 1, r', by omega, by go_num, rfl, hr0', by omega, HS2, HB1⟩
        case measure => simp [intOf]; omega
    · obtain rfl : k = l.length := by omega
      go_wp2
      go_ret
      exact ⟨⟨r, rfl, hr1, .inr ⟨hr0, by omega, fitTo_all hF.out⟩⟩, hB.out⟩

/-- What a copy comes to: a row of the call's own that holds the chunks. -/
def MadeC (base : Nat) (l : List Chk) (w : World) (e : Ending) (w' : World) : Prop :=
  ∃ v, e = .returned v ∧ w'.ownsRow base 85 4 v l.length (cellsG cC l) ∧ Below w.heap.size w w'
theorem made_crow {w w' : World} {base : Nat} {l : List Chk} {e : Ending} (h : MadeC base l w e w') : ∃ ao c, e = .returned (.slice ao l.length c) ∧ w'.ownsRow base 85 4 (.slice ao l.length c) l.length (cellsG cC l) ∧ CRow w' w'.heap.size ao l ∧ Below w.heap.size w w' := by
  obtain ⟨v, rfl, ho, hb⟩ := h
  obtain ⟨ao, c, rfl⟩ := own_slice ho
  exact ⟨ao, c, rfl, ho, GR.of_own cC_len ho, hb⟩
theorem Try.infoC : (Try.prog.info? 85).map (fun i => (i.zero, i.size, i.bytes)) = some (some (.agg #[.string ⟨#[]⟩, .int .i64 0, .int .i64 0, .int .i64 0]), 4, 40) := by kernel_rfl

set_option maxHeartbeats 2000000 in
set_option maxRecDepth 100000 in
theorem toCs (ao : Option Addr) (cap : Nat) (l : List Chk) (hn : l.length ≤ 1048576) (w : World) (h : CRow w w.heap.size ao l) :
    Calls Try.prog 47 #[.slice ao l.length cap] w (MadeC w.heap.size l w) := by
  have H := Lib.hid h
  clear h
  obtain ⟨i0, hi0, hz0, hz1, hz2⟩ := info_parts Try.infoC
  go_enter Try.func47, Try.ntmps47
  go_wp2_with (refine wpList_make_full _ rfl (.tmp 6) (.tmp 6) 27 rfl w.heap.size 85 i0 _ 4 Try.underlying27 hi0 hz0 hz1 _ _ _ _ l.length rfl rfl rfl rfl (by rw [hz2]; omega) (by unfold maxLen; omega) (Nat.le_refl _) ?_; intro w1 hown1 hg1; have HO := Lib.hid hown1; have HG := Lib.hid hg1; clear hown1 hg1)
  go_loopw [4] (fun i wr => ∃ k : Nat, k ≤ l.length ∧ i = .int .i64 k ∧ Hid (LaidG w.heap.size 85 4 cC w.heap.size l.length l.length l k wr) ∧ Hid (Below w.heap.size w wr)) (fun i _ => l.length - (intOf i).toNat)
  case atStart => exact ⟨0, Nat.zero_le _, rfl, Lib.hid (LaidG.start HO.out), (Below.refl _ _).grown HG.out (Nat.le_refl _) (fun _ h => by cases h)⟩
  case round =>
    obtain ⟨k, hk, rfl, hL, hb⟩ := hrel
    by_cases hlt : k < l.length
    · obtain ⟨b, off, hao, hbl, hc0, hc1, hc2, hc3⟩ := (H.out.below hb.out).oneC hlt
      subst hao
      have HS := Lib.hid (fun (w1 : World) (x0 x1 x2 x3 : Value) (hx : cC l[k] = [x0, x1, x2, x3]) (h : LaidG w.heap.size 85 4 cC w.heap.size l.length l.length l k w1) => (h.step4 hlt (fun _ => hx)).1)
      have hx0 : cC l[k] = [.string l[k].1, .int .i64 l[k].2.1, .int .i64 l[k].2.2.1, .int .i64 l[k].2.2.2] := rfl
      generalize l[k] = x at hc0 hc1 hc2 hc3 HS hx0
      obtain ⟨s, x1, x2, x3⟩ := x
      simp only at hc0 hc1 hc2 hc3 HS hx0
      have HX := Lib.hid hx0
      clear hx0
      go_wp2_with fail
      refine (to54 s x1 x2 x3 _).mono ?_
      rintro e w2 ⟨rfl, hb2⟩
      have HL := Lib.hid (hL.out.below hb2)
      have HB := Lib.hid (hb.out.trans (hb2.mono hb.out.size))
      clear hb2 hc0 hc1 hc2 hc3
      obtain ⟨⟨u0, t0⟩, f0⟩ := HL.out.at hlt 0 (by decide)
      obtain ⟨⟨u1, t1⟩, f1⟩ := HL.out.at hlt 1 (by decide)
      obtain ⟨⟨u2, t2⟩, f2⟩ := HL.out.at hlt 2 (by decide)
      obtain ⟨⟨u3, t3⟩, f3⟩ := HL.out.at hlt 3 (by decide)
      rw [Nat.add_zero] at t0 f0
      go_wp2
      go_roundw
      case rel => exact ⟨k + 1, by omega, by go_num, HS.out _ _ _ _ _ HX.out HL.out, (((HB.out.setCell (Nat.le_refl _) _).setCell (Nat.le_refl _) _).setCell (Nat.le_refl _) _).setCell (Nat.le_refl _) _⟩
      case measure => simp [intOf]; omega
    · obtain rfl : k = l.length := by omega
      go_wp2
      go_ret
      exact ⟨_, rfl, hL.out.done cC_len, hb.out⟩

set_option maxHeartbeats 2000000 in
set_option maxRecDepth 100000 in
theorem eqCs (ao bo : Option Addr) (c d : Nat) (l : List Chk) (hn : l.length ≤ 1048576) (w : World) (ha : CRow w w.heap.size ao l) (hb : CRow w w.heap.size bo l) :
    Calls Try.prog 52 #[.slice ao l.length c, .slice bo l.length d] w fun e w' => e = .returned (.bool true) ∧ Below w.heap.size w w' := by
  have HA := Lib.hid ha
  have HB := Lib.hid hb
  clear ha hb
  go_enter Try.func52, Try.ntmps52
  go_wp2
  go_loopw [5] (fun i wr => ∃ k : Nat, k ≤ l.length ∧ i = .int .i64 k ∧ Hid (Below w.heap.size w wr)) (fun i _ => l.length - (intOf i).toNat)
  case atStart => exact ⟨0, Nat.zero_le _, rfl, Below.refl _ _⟩
  case round =>
    obtain ⟨k, hk, rfl, hb⟩ := hrel
    by_cases hlt : k < l.length
    · obtain ⟨b, off, hao, hbl, hc0, hc1, hc2, hc3⟩ := (HA.out.below hb.out).oneC hlt
      obtain ⟨b', off', hao', hbl', hd0, hd1, hd2, hd3⟩ := (HB.out.below hb.out).oneC hlt
      subst hao hao'
      generalize l[k] = x at hc0 hc1 hc2 hc3 hd0 hd1 hd2 hd3
      obtain ⟨s, x1, x2, x3⟩ := x
      simp only at hc0 hc1 hc2 hc3 hd0 hd1 hd2 hd3
      go_wp2
      go_still_tail 8, (by kernel_rfl)
      change wpList _ _ _ _ _ wr.drew
      have HB2 := Lib.hid hb.out.drew
      go_wp2_with fail
      refine (eq56 s x1 x2 x3 _).mono ?_
      rintro e w2 ⟨rfl, hb2⟩
      have HB3 := Lib.hid (HB2.out.trans (hb2.mono HB2.out.size))
      clear hb2
      go_wp2
      go_roundw
      case rel => exact ⟨k + 1, by omega, by go_num, HB3⟩
      case measure => simp [intOf]; omega
    · go_wp2
      go_ret
      exact ⟨rfl, hb.out⟩
end Go.Proofs.Yteiefngamccapaa
namespace Go.Proofs.Yteiefngamccapaa
open Go.ChangeShapes Go.WideShapes Go.ChangeAt Go.RowKit Go.ChangeMaps Go.Deep

theorem cells70 : Try.prog.cellsOf 39 = 2 := by kernel_rfl
theorem cells66 : Try.prog.cellsOf 99 = 4 := by kernel_rfl
theorem cells3 : Try.prog.cellsOf 3 = 1 := by kernel_rfl
theorem cells9 : Try.prog.cellsOf 9 = 1 := by kernel_rfl
theorem cells44 : Try.prog.cellsOf 37 = 1 := by kernel_rfl
theorem read62 : Try.prog.readableRec 45 = true ∧ 45 < Try.prog.types.size := ⟨by kernel_rfl, of_decide_eq_true (by kernel_rfl)⟩
theorem read66 : Try.prog.readableRec 99 = true ∧ 99 < Try.prog.types.size := ⟨by kernel_rfl, of_decide_eq_true (by kernel_rfl)⟩
theorem read70 : Try.prog.readableRec 39 = true ∧ 39 < Try.prog.types.size := ⟨by kernel_rfl, of_decide_eq_true (by kernel_rfl)⟩
section
variable {H : Type} {enc : TypeId × Value → H} {w : World} {base : Nat} {spare : Nat → Bool} {held : Bool}

theorem trod_float {P : Program} {n : Nat} {t : TypeId} {v : Value} {x : DataW H × List MemPlace} (ht : P.underlying t = some (.float .f64)) (h : DataW.trod enc P w base spare held n t [v] = some x) : ∃ b, v = .float .f64 b ∧ b < 18446744073709551616 := by
  cases n with
  | zero => simp [DataW.trod] at h
  | succ n =>
    simp only [DataW.trod, ht] at h
    cases v <;> simp at h
    rename_i k b
    obtain ⟨⟨rfl, hw⟩, _⟩ := h
    exact ⟨b, rfl, by simpa [Lit.wf] using hw⟩

set_option maxRecDepth 100000 in
theorem two_cells {fuel : Nat} {cs : List Value} {x : DataW H × List MemPlace} (h : DataW.trod enc Try.prog w base spare held fuel 39 cs = some x) : ∃ (a : Int) (b : Nat), cs = [.int .i64 a, .float .f64 b] ∧ In64 a ∧ b < 18446744073709551616 := by
  obtain ⟨xs, n, _, _, hcl, hlen, hf⟩ := DataW.trod_struct Try.underlying39 h
  have h0 := hf 0 _ rfl
  have h1 := hf 1 _ rfl
  rw [cells70] at hcl
  match cs, hcl, xs, hlen with
  | [c0, c1], _, [x0, x1], _ =>
    simp [cells3, cells44] at h0 h1
    obtain ⟨a, e0, _, s0⟩ := DataW.trod_int Try.underlying3 h0
    obtain ⟨b, e1, s1⟩ := trod_float Try.underlying37 h1
    simp at e0
    exact ⟨a, b, by rw [e0, e1], bounds_i64 s0, s1⟩
set_option maxRecDepth 100000 in
theorem four_cells {fuel : Nat} {cs : List Value} {x : DataW H × List MemPlace} (h : DataW.trod enc Try.prog w base spare held fuel 99 cs = some x) : ∃ (s : ByteArray) (a b c : Int), cs = [.string s, .int .i64 a, .int .i64 b, .int .i64 c] ∧ s.size ≤ maxLen ∧ In64 a ∧ In64 b ∧ In64 c := by
  obtain ⟨xs, n, _, _, hcl, hlen, hf⟩ := DataW.trod_struct Try.underlying99 h
  have h0 := hf 0 _ rfl
  have h1 := hf 1 _ rfl
  have h2 := hf 2 _ rfl
  have h3 := hf 3 _ rfl
  rw [cells66] at hcl
  match cs, hcl, xs, hlen with
  | [c0, c1, c2, c3], _, [x0, x1, x2, x3], _ =>
    simp [cells3, cells9] at h0 h1 h2 h3
    obtain ⟨s, e0, _, s0⟩ := DataW.trod_string Try.underlying9 h0
    obtain ⟨a, e1, _, s1⟩ := DataW.trod_int Try.underlying3 h1
    obtain ⟨b, e2, _, s2⟩ := DataW.trod_int Try.underlying3 h2
    obtain ⟨c, e3, _, s3⟩ := DataW.trod_int Try.underlying3 h3
    simp at e0 e1 e2 e3
    exact ⟨s, a, b, c, by rw [e0, e1, e2, e3], s0, bounds_i64 s1, bounds_i64 s2, bounds_i64 s3⟩
theorem open_sample {v : Value} {d : DataW H} {ps : List MemPlace} (hv : ∃ cs, v = .agg cs ∧ cs.size = Try.prog.cellsOf 39) (h : DataW.Trod enc Try.prog w base spare held 39 v d ps) : ∃ (a : Int) (b : Nat), v = .agg #[.int .i64 a, .float .f64 b] ∧ In64 a ∧ b < 18446744073709551616 := by
  obtain ⟨cs, rfl, _⟩ := hv
  obtain ⟨fuel, hf⟩ := h
  obtain ⟨a, b, hc, h1, h2⟩ := two_cells hf
  refine ⟨a, b, ?_, h1, h2⟩
  simp [Value.cells] at hc
  obtain ⟨l⟩ := cs
  simp at hc
  subst hc
  rfl
theorem open_chunk {v : Value} {d : DataW H} {ps : List MemPlace} (hv : ∃ cs, v = .agg cs ∧ cs.size = Try.prog.cellsOf 99) (h : DataW.Trod enc Try.prog w base spare held 99 v d ps) : ∃ (s : ByteArray) (a b c : Int), v = .agg #[.string s, .int .i64 a, .int .i64 b, .int .i64 c] ∧ s.size ≤ maxLen := by
  obtain ⟨cs, rfl, _⟩ := hv
  obtain ⟨fuel, hf⟩ := h
  obtain ⟨s, a, b, c, hc, h1, _⟩ := four_cells hf
  refine ⟨s, a, b, c, ?_, h1⟩
  simp [Value.cells] at hc
  obtain ⟨l⟩ := cs
  simp at hc
  subst hc
  rfl
set_option maxRecDepth 100000 in
theorem open_samples {v : Value} {d : DataW H} {ps : List MemPlace} (hv : ∃ a l c, v = .slice a l c) (h : DataW.Trod enc Try.prog w base spare held 45 v d ps) : ∃ ao cap l, v = .slice ao l.length cap ∧ l.length ≤ maxLen ∧ FitS l ∧ SRow w w.heap.size ao l := by
  obtain ⟨a, l, c, rfl⟩ := hv
  obtain ⟨fuel, hf⟩ := h
  rcases open_slice Try.underlying45 hf with ⟨hcs, _⟩ | ⟨a', len, cap, m, n, D, Pl, hcs, _, hl, hcm, hm, _, hx⟩
  · simp [Value.cells] at hcs
    obtain ⟨rfl, rfl, rfl⟩ := hcs
    exact ⟨none, 0, [], rfl, by simp, FitS.nil, SRow.nil _ _ _⟩
  · simp [Value.cells] at hcs
    obtain ⟨rfl, rfl, rfl⟩ := hcs
    have hlm : l ≤ m := by rw [hm]; split <;> omega
    obtain ⟨B, hB⟩ := choose_lt (α := Smp) (n := l) (p := fun i x => w.cell? (a'.add (i * 2)) = some (.int .i64 x.1) ∧ w.cell? (a'.add (i * 2 + 1)) = some (.float .f64 x.2) ∧ In64 x.1 ∧ x.2 < 18446744073709551616) (fun i hi => by
      obtain ⟨cs', hc, ht⟩ := hx i (by omega)
      rw [cells70] at hc
      obtain ⟨x, y, rfl, s0, s1⟩ := two_cells ht
      obtain ⟨_, _, hat⟩ := World.cells?_some hc
      have e0 := hat 0 (by omega)
      have e1 := hat 1 (by omega)
      rw [Go.Deep.add_add] at e0 e1
      exact ⟨(x, y), by simpa using e0, by simpa using e1, s0, s1⟩)
    have hk : ∀ (k : Nat) (h : k < ((List.range l).map B).length), ((List.range l).map B)[k] = B k := by intro k h; simp
    refine ⟨some a', c, (List.range l).map B, by simp, by simp; omega, ?_, ?_⟩
    · intro x hx
      simp at hx
      obtain ⟨i, hi, rfl⟩ := hx
      exact (hB i hi).2.2
    · intro hp
      simp at hp
      obtain ⟨b, off, spot⟩ := a'
      have h0 := (hB 0 hp).1
      have hs : spot = none := by simpa [Addr.add] using World.cell?_spot h0
      subst hs
      refine ⟨b, off, rfl, ?_, ?_⟩
      · have : w.cell? ⟨b, off, none⟩ = some (.int .i64 (B 0).1) := by simpa [Addr.add] using h0
        exact World.block_lt_of_cell? w _ this
      · intro i hi
        rw [hk i hi]
        simp at hi
        have h1 := (hB i hi).1
        have h2 := (hB i hi).2.1
        rw [add_plain] at h1 h2
        exact ⟨h1, by rw [Nat.add_assoc]; exact h2⟩
end
end Go.Proofs.Yteiefngamccapaa
