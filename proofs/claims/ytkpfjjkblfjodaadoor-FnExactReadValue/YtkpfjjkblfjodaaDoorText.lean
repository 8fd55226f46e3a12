/- Contracts of the text of a value in the program and in the model, over the door's translation: both answer the same sixteen letters. -/
import Derived.Test.YtkpfjjkblfjodaaDoorHex
namespace Go.Proofs.YtkpfjjkblfjodaaDoor
open Go.RowKit Go.Deep

def Fmt (u : Nat) (w : World) (e : Ending) (w' : World) : Prop := ∃ n : Nat, 1 ≤ n ∧ n ≤ 16 ∧ u < 16 ^ n ∧ e = .returned (.string ⟨(hexL u n).toArray⟩) ∧ Below w.heap.size w w'

theorem fmt18 (u : Nat) (hu : u < 18446744073709551616) (w : World) (h : w.cell? ⟨6, 15, none⟩ = some (.int .u8 4)) (h6 : 6 < w.heap.size) :
    Calls Tryd.prog 18 #[.int .u64 u, .int .i64 16] w (Fmt u w) := by
  go_enter Tryd.func18, Tryd.ntmps18
  go_wp2_with fail
  refine (fmt30 u hu w h h6).mono ?_
  rintro e w1 ⟨n, h1, h2, h3, rfl, hb⟩
  have HB := Lib.hid hb; have H3 := Lib.hid h3; clear hb h3
  go_wp2
  go_ret
  exact ⟨n, h1, h2, H3.out, rfl, HB.out⟩

theorem fmt12 (u : Nat) (hu : u < 18446744073709551616) (w : World) (h : w.cell? ⟨6, 15, none⟩ = some (.int .u8 4)) (h6 : 6 < w.heap.size) :
    Calls Tryd.prog 12 #[.int .u64 u, .int .i64 16] w (Fmt u w) := by
  go_enter Tryd.func12, Tryd.ntmps12
  go_wp2_with fail
  refine (fmt18 u hu w h h6).mono ?_
  rintro e w1 ⟨n, h1, h2, h3, rfl, hb⟩
  have HB := Lib.hid hb; have H3 := Lib.hid h3; clear hb h3
  go_wp2
  go_ret
  exact ⟨n, h1, h2, H3.out, rfl, HB.out⟩

def zeros (c : Nat) : ByteArray := ⟨(List.replicate c 48).toArray⟩

def startsZero (s : ByteArray) : Bool := (s.extract 0 1).toList == [48]

theorem ret_bool {a b : Bool} (h : a = b) : Ending.returned (.bool a) = .returned (.bool b) := by rw [h]
theorem ret_str {a b : ByteArray} (h : a = b) : Ending.returned (.string a) = .returned (.string b) := by rw [h]

theorem pre33 (s : ByteArray) (h0 : 0 < s.size) (w : World) : Calls Tryd.prog 33 #[.string s, .string ⟨#[48]⟩] w fun e w' => e = .returned (.bool (startsZero s)) ∧ w = w' := by
  go_enter Tryd.func33, Tryd.ntmps33
  go_wp2
  go_ret
  exact ⟨rfl, rfl⟩

theorem pre20 (s : ByteArray) (b : Bool) (h0 : 0 < s.size) (hb : startsZero s = b) (w : World) : Calls Tryd.prog 20 #[.string s, .string ⟨#[48]⟩] w fun e w' => e = .returned (.bool b) ∧ w = w' := by
  subst hb
  go_enter Tryd.func20, Tryd.ntmps20
  go_wp2_with (go_at_call 33; refine (pre33 _ h0 _).mono ?_; rintro e w' ⟨rfl, rfl⟩)
  go_ret
  exact ⟨rfl, rfl⟩

theorem mul19 (c : Nat) (hc : c ≤ 16) (w : World) : Calls Tryd.prog 19 #[.int .u64 1, .int .u64 c] w fun e w' => e = .returned (.tuple #[.int .u64 0, .int .u64 c]) ∧ w = w' := by
  have hb1 : bits BinOp.and IntKind.u64 1 4294967295 = 1 := by decide
  have hb0 : bits BinOp.and IntKind.u64 0 4294967295 = 0 := by decide
  have hb2 : bits BinOp.and IntKind.u64 (c : Int) 4294967295 = (c : Int) := by
    have h := bits_and_u64_nat c 4294967295 (by omega) (by omega)
    rw [show (4294967295 : Nat) = 2 ^ 32 - 1 from rfl, Nat.and_two_pow_sub_one_eq_mod, Nat.mod_eq_of_lt (by omega)] at h
    exact h
  have hd : (c : Int) / 4294967296 = 0 := by omega
  go_enter Tryd.func19, Tryd.ntmps19
  go_wp2
  go_ret2
  exact ⟨rfl, rfl⟩

def z64 : ByteArray := ⟨#[48, 48, 48, 48, 48, 48, 48, 48, 48, 48, 48, 48, 48, 48, 48, 48, 48, 48, 48, 48, 48, 48, 48, 48, 48, 48, 48, 48, 48, 48, 48, 48, 48, 48, 48, 48, 48, 48, 48, 48, 48, 48, 48, 48, 48, 48, 48, 48, 48, 48, 48, 48, 48, 48, 48, 48, 48, 48, 48, 48, 48, 48, 48, 48]⟩

theorem z64_cut (c : Nat) (h : c ≤ 16) : z64.extract 0 c = zeros c := by
  have hall : ∀ c : Fin 17, z64.extract 0 c.val = zeros c.val := by decide +kernel
  exact hall ⟨c, by omega⟩

set_option maxRecDepth 100000 in
set_option maxHeartbeats 2000000 in
theorem rep14 (c : Nat) (hc : c ≤ 16) (w : World) : Calls Tryd.prog 14 #[.string ⟨#[48]⟩, .int .i64 c] w fun e w' => e = .returned (.string (zeros c)) ∧ w = w' := by
  have h0 : ((⟨#[48]⟩ : ByteArray)[0]'(by decide)).toNat = 48 := rfl
  by_cases c0 : c = 0
  · subst c0
    go_enter Tryd.func14, Tryd.ntmps14
    go_wp2_with fail
    go_ret
    exact ⟨rfl, rfl⟩
  by_cases c1 : c = 1
  · subst c1
    go_enter Tryd.func14, Tryd.ntmps14
    go_wp2_with fail
    go_ret
    exact ⟨rfl, rfl⟩
  have hge : 2 ≤ c := by omega
  have t0 : ((c : Int) == 0) = false := by rw [beq_eq_false_iff_ne]; omega
  have t1 : ((c : Int) == 1) = false := by rw [beq_eq_false_iff_ne]; omega
  go_enter Tryd.func14, Tryd.ntmps14
  go_wp2_with fail
  refine (mul19 c hc _).mono ?_
  rintro e w1 ⟨rfl, rfl⟩
  go_wp2_with fail
  refine (pre20 _ false (by decide) (by decide +kernel) _).mono ?_
  rintro e w1 ⟨rfl, rfl⟩
  go_wp2_with fail
  refine (pre20 _ false (by decide) (by decide +kernel) _).mono ?_
  rintro e w1 ⟨rfl, rfl⟩
  go_wp2_with fail
  refine (pre20 _ true (by decide) (by decide +kernel) _).mono ?_
  rintro e w1 ⟨rfl, rfl⟩
  go_wp2_with fail
  go_ret
  exact ⟨ret_str (z64_cut c hc), rfl⟩
end Go.Proofs.YtkpfjjkblfjodaaDoor
