/- Contracts of ReadVar, in the program and in the model, over this seat's translation, and the walk of the law FnExactReadVar. -/
import Derived.Test.YtopcnhfphbmlaaaRead
namespace Go.Proofs.Ytopcnhfphbmlaaa
open Go.RowKit Go.Deep

open Classical in
/-- The number that stands at a place of a text, if the text is short enough and the place is in it. -/
noncomputable def rvN (s : ByteArray) (z : Int) : Option Nat := if s.size ≤ 400 ∧ 0 ≤ z ∧ z ≤ s.size then readV (s.data.toList.drop z.toNat) else none
/-- What ReadVar answers. -/
def rvV (z : Int) : Option Nat → Value
  | none => .tuple #[.int .u64 0, .int .i64 0, .bool false]
  | some m => .tuple #[.int .u64 m, .int .i64 (z.toNat + (putV m).length : Nat), .bool true]
theorem rvN_no {s : ByteArray} {z : Int} (h : ¬ (s.size ≤ 400 ∧ 0 ≤ z ∧ z ≤ s.size)) : rvN s z = none := by unfold rvN; rw [if_neg h]
theorem rvN_at {s : ByteArray} {a : Nat} (h : s.size ≤ 400) (h' : a ≤ s.size) : rvN s a = readV (s.data.toList.drop a) := by
  unfold rvN; rw [if_pos ⟨h, by omega, by omega⟩, Int.toNat_natCast]
theorem rvN_is {s : ByteArray} {z : Int} {m : Nat} (h : rvN s z = some m) : s.size ≤ 400 ∧ 0 ≤ z ∧ z ≤ s.size ∧ Stands (s.data.toList.drop z.toNat) m := by
  unfold rvN at h
  split at h
  · rename_i hc; exact ⟨hc.1, hc.2.1, hc.2.2, readV_is h⟩
  · cases h
def RvEnd (s : ByteArray) (z : Int) (w : World) (e : Ending) (w' : World) : Prop := e = .returned (rvV z (rvN s z)) ∧ Below w.heap.size w w'
theorem rv_none {s : ByteArray} {z : Int} (h : rvN s z = none) : Ending.returned (.tuple #[.int .u64 0, .int .i64 0, .bool false]) = .returned (rvV z (rvN s z)) := by rw [h]; rfl
theorem rv_some {s : ByteArray} {a m : Nat} (h : rvN s a = some m) : Ending.returned (.tuple #[.int .u64 m, .int .i64 (a + (putV m).length : Nat), .bool true]) = .returned (rvV a (rvN s a)) := by rw [h]; rfl

set_option maxHeartbeats 2000000 in
set_option maxRecDepth 100000 in
theorem rv15 (s : ByteArray) (z : Int) (hs : s.size ≤ 1048576) (w : World) : Calls Try.prog 15 #[.string s, .int .i64 z] w (RvEnd s z w) := by
  by_cases h1 : s.size ≤ 400
  case neg =>
    have HR := Lib.hid (rv_none (rvN_no (s := s) (z := z) (fun h => h1 h.1)))
    go_enter Try.func15, Try.ntmps15
    go_wp2
    go_ret3
    exact ⟨HR.out, Below.refl _ _⟩
  by_cases h2 : 0 ≤ z
  case neg =>
    have HR := Lib.hid (rv_none (rvN_no (s := s) (z := z) (fun h => h2 h.2.1)))
    go_enter Try.func15, Try.ntmps15
    go_wp2
    go_ret3
    exact ⟨HR.out, Below.refl _ _⟩
  obtain ⟨a, rfl⟩ := Int.eq_ofNat_of_zero_le h2
  by_cases h3 : a ≤ s.size
  case neg =>
    have HR := Lib.hid (rv_none (rvN_no (s := s) (z := a) (fun h => h3 (by omega))))
    go_enter Try.func15, Try.ntmps15
    go_wp2
    go_ret3
    exact ⟨HR.out, Below.refl _ _⟩
  have HE := Lib.hid (rvN_at h1 h3)
  go_enter Try.func15, Try.ntmps15
  go_wp2_with fail
  refine (read38 s a hs h3 _).mono ?_
  rintro e w1 ⟨⟨hn, rfl⟩ | ⟨m, hm, rfl⟩, hb⟩
  · have HR := Lib.hid (rv_none (HE.out.trans hn))
    have HB := Lib.hid hb
    clear hb hn
    go_wp2
    go_ret3
    exact ⟨HR.out, HB.out⟩
  · have HR := Lib.hid (rv_some (HE.out.trans hm))
    have HB := Lib.hid hb
    clear hb hm
    go_wp2
    go_ret3
    exact ⟨HR.out, HB.out⟩

set_option maxHeartbeats 2000000 in
set_option maxRecDepth 100000 in
theorem rv25 (s : ByteArray) (z : Int) (hs : s.size ≤ 1048576) (w : World) : Calls Try.prog 25 #[.string s, .int .i64 z] w (RvEnd s z w) := by
  by_cases h1 : s.size ≤ 400
  case neg =>
    have HR := Lib.hid (rv_none (rvN_no (s := s) (z := z) (fun h => h1 h.1)))
    go_enter Try.func25, Try.ntmps25
    go_wp2
    go_ret3
    exact ⟨HR.out, Below.refl _ _⟩
  by_cases h2 : 0 ≤ z ∧ z ≤ s.size
  case neg =>
    have HR := Lib.hid (rv_none (rvN_no (s := s) (z := z) (fun h => h2 h.2)))
    have hq : (decide (0 ≤ z) && decide (z ≤ (s.size : Int))) = false := by simp; omega
    clear h2
    go_enter Try.func25, Try.ntmps25
    go_wp2_with fail
    refine (in44 z 0 s.size _).mono ?_
    rintro e w1 ⟨rfl, rfl⟩
    rw [hq]
    go_wp2
    go_ret3
    exact ⟨HR.out, Below.refl _ _⟩
  obtain ⟨a, rfl⟩ := Int.eq_ofNat_of_zero_le h2.1
  have h3 : a ≤ s.size := by omega
  have hq : (decide (0 ≤ (a : Int)) && decide ((a : Int) ≤ (s.size : Int))) = true := by simp; omega
  clear h2
  have HE := Lib.hid (rvN_at h1 h3)
  go_enter Try.func25, Try.ntmps25
  go_wp2_with fail
  refine (in44 a 0 s.size _).mono ?_
  rintro e w1 ⟨rfl, rfl⟩
  rw [hq]
  clear hq
  go_wp2_with fail
  refine (read45 s a hs h3 _).mono ?_
  rintro e w1 ⟨⟨hn, rfl⟩ | ⟨m, hm, rfl⟩, hb⟩
  · have HR := Lib.hid (rv_none (HE.out.trans hn))
    have HB := Lib.hid hb
    clear hb hn
    go_wp2
    go_ret3
    exact ⟨HR.out, HB.out⟩
  · have HR := Lib.hid (rv_some (HE.out.trans hm))
    have HB := Lib.hid hb
    clear hb hm
    go_wp2
    go_ret3
    exact ⟨HR.out, HB.out⟩

set_option maxHeartbeats 2000000 in
set_option maxRecDepth 100000 in
theorem walk_fnExactReadVar (w : World) (s : ByteArray) (z : Int) (hs : s.size ≤ maxLen) (_hz : -9223372036854775808 ≤ z ∧ z ≤ 9223372036854775807) : Calls Try.prog 6 #[.string s, .int .i64 z] w fun e w' => e = .returned (.bool true) ∧ Below w.heap.size w w' := by
  unfold maxLen at hs
  by_cases hbig : 1048576 < s.size
  · go_enter Try.func6, Try.ntmps6
    go_wp2
    go_ret
    exact ⟨rfl, Below.refl _ _⟩
  go_enter Try.func6, Try.ntmps6
  go_wp2_with fail
  refine (rv25 s z (by omega) _).mono ?_
  rintro e w1 ⟨rfl, hb⟩
  have HB := Lib.hid hb
  clear hb
  cases hr : rvN s z with
  | none =>
    have HR := Lib.hid hr
    unfold rvV
    go_wp2_with fail
    refine (rv15 s z (by omega) _).mono ?_
    rintro e w2 ⟨rfl, hb⟩
    have HB2 := Lib.hid (HB.out.trans (hb.mono HB.out.size))
    clear hb
    rw [HR.out]
    unfold rvV
    go_wp2
    go_ret
    exact ⟨rfl, HB2.out⟩
  | some m =>
    have HR := Lib.hid hr
    unfold rvV
    go_wp2_with fail
    refine (rv15 s z (by omega) _).mono ?_
    rintro e w2 ⟨rfl, hb⟩
    have HB2 := Lib.hid (HB.out.trans (hb.mono HB.out.size))
    clear hb
    rw [HR.out]
    unfold rvV
    go_wp2
    go_ret
    exact ⟨rfl, HB2.out⟩
end Go.Proofs.Ytopcnhfphbmlaaa
