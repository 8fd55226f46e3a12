/- The walk of the law FnVars: for every two lists of bytes its call returns true and writes nothing that was there. -/
import Derived.Test.YtopcnhfphbmlaaaArgs
import Derived.Test.YtopcnhfphbmlaaaDraw
import Derived.Test.YtopcnhfphbmlaaaRv
import Derived.Deep.RegionHeld3
namespace Go.Proofs.Ytopcnhfphbmlaaa
open Go.RowKit Go.Deep

theorem below_drewN {B : Nat} {w w' : World} (h : Below B w w') (q : Nat) : Below B w (w'.drewN q) := by
  induction q with
  | zero => exact h
  | succ q ih => exact ih.drew
theorem rv_mid {u : Nat} (hu : u < 18446744073709551616) : rvN ((⟨#[97]⟩ : ByteArray) ++ txtV u ++ ⟨#[98]⟩) 1 = some u := by
  have hz := putV_ten hu
  rw [← txtV_size] at hz
  have hsz : ((⟨#[97]⟩ : ByteArray) ++ txtV u ++ ⟨#[98]⟩).size = 1 + (txtV u).size + 1 := by rw [ByteArray.size_append, ByteArray.size_append]; rfl
  have e : ((⟨#[97]⟩ : ByteArray) ++ txtV u ++ ⟨#[98]⟩).data.toList.drop 1 = putV u ++ [98] := by
    simp [txtV, ByteArray.data_append]
  have := rvN_at (s := (⟨#[97]⟩ : ByteArray) ++ txtV u ++ ⟨#[98]⟩) (a := 1) (by omega) (by omega)
  rw [e, readV_some (m := u) ⟨hu, [98], rfl⟩] at this
  exact this
theorem cut_any {s : ByteArray} {a E : Nat} (h : a ≤ E) (h' : E ≤ s.size) : ∀ W, (Instr.slice 9 (.string s) (some (.int .i64 a)) (some (.int .i64 E)) none).run Try.prog W = .ok (.string (s.extract a E)) W := fun W => by
  rw [run_slice_string W 9 s .i64 .i64 (a : Int) (E : Int) Try.underlying9 (by omega) (by omega) (by omega), Int.toNat_natCast, Int.toNat_natCast]
theorem stands_cut {s : ByteArray} {a m E : Nat} (ha : a ≤ s.size) (hE : E = a + (putV m).length) (h : Stands (s.data.toList.drop a) m) : E ≤ s.size ∧ ((txtV m).toList == (s.extract a E).toList) = true := by
  obtain ⟨_, r, e⟩ := h
  subst hE
  constructor
  · have := congrArg List.length e
    rw [List.length_drop, List.length_append] at this
    have h2 : s.data.toList.length = s.size := rfl
    omega
  · rw [txt_eq, decide_eq_true_eq, e, List.take_left]

set_option maxRecDepth 100000 in
set_option maxHeartbeats 8000000 in
theorem walk_fnVars (w : World) (ao : Option Addr) (c n : Nat) (bo : Option Addr) (d m : Nat) (ha : BRow w w.heap.size ao n) (hb : BRow w w.heap.size bo m) :
    Calls Try.prog 3 #[.slice ao n c, .slice bo m d] w fun e w' => e = .returned (.bool true) ∧ Below w.heap.size w w' := by
  have HA := Lib.hid ha
  have HB := Lib.hid hb
  clear ha hb
  by_cases hbig : 1048576 < n + m
  · have hd : decide (1048576 < n + m) = true := by simpa using hbig
    go_enter Try.func3, Try.ntmps3
    go_wp2_with fail
    refine (big12 w ao bo n m c d).mono ?_
    rintro e w1 ⟨rfl, rfl⟩
    rw [hd]
    go_wp2
    go_ret
    exact ⟨rfl, Below.refl _ _⟩
  have hd : decide (1048576 < n + m) = false := by simpa using hbig
  go_enter Try.func3, Try.ntmps3
  go_wp2_with fail
  refine (big12 w ao bo n m c d).mono ?_
  rintro e w1 ⟨rfl, rfl⟩
  rw [hd]
  clear hd
  go_wp2_with fail
  refine (draw13 w ao n c HA.out (by omega)).mono ?_
  rintro e w1 ⟨u, hu, rfl, hb1⟩
  have HU := Lib.hid hu; have HB1 := Lib.hid hb1
  have HM := Lib.hid (rv_mid hu)
  have hsz : (txtV u).size ≤ 10 := by rw [txtV_size]; exact putV_ten hu
  have F19 := Lib.hid (flip19 u hu); have F23 := Lib.hid (flip23 u hu); have F2 := Lib.hid (flip19 (flipN u) (flipN_lt u))
  rw [flipN_flip hu] at F2
  have G21 := Lib.hid (zag21 u hu); have G22 := Lib.hid (zag22 u hu); have G18 := Lib.hid (zig18 (zagI u) (zag_in hu))
  rw [zig_zag u] at G18
  generalize flipN u = f at F19 F23 F2
  generalize zagI u = g at G21 G22 G18
  clear hu hb1 HA
  have hrv : rvV 1 (some u) = .tuple #[.int .u64 u, .int .i64 ((1 + (txtV u).size : Nat) : Int), .bool true] := by rw [txtV_size]; rfl
  go_wp2_with fail
  refine (put14 u HU.out _).mono ?_
  rintro e w2 ⟨rfl, hb2⟩
  have HB2 := Lib.hid (HB1.out.trans (hb2.mono HB1.out.size))
  clear hb2
  go_wp2_with fail
  obtain ⟨S, hS⟩ : ∃ S : ByteArray, S = (⟨#[97]⟩ : ByteArray) ++ txtV u ++ ⟨#[98]⟩ := ⟨_, rfl⟩
  have hSz : S.size ≤ 1048576 := by rw [hS, ByteArray.size_append, ByteArray.size_append]; show 1 + (txtV u).size + 1 ≤ _; omega
  have HM2 : Hid (rvN S 1 = some u) := Lib.hid (by rw [hS]; exact HM.out)
  rw [← hS]
  clear hS HM
  refine (rv15 S 1 hSz _).mono ?_
  rintro e w3 ⟨rfl, hb3⟩
  have HB3 := Lib.hid (HB2.out.trans (hb3.mono HB2.out.size))
  clear hb3
  rw [HM2.out, hrv]
  clear hrv HM2
  go_wp2_with fail
  refine (put16 u HU.out _).mono ?_
  rintro e w4 ⟨rfl, hb4⟩
  have HB4 := Lib.hid (HB3.out.trans (hb4.mono HB3.out.size))
  clear hb4
  generalize txtV u = tx at hsz ⊢
  go_wp2_with fail
  refine (draw17 w4 bo m d (HB.out.after HB4.out) (by omega)).mono ?_
  rintro e w5 ⟨z, hz, rfl, hb5⟩
  have HB5 := Lib.hid (HB4.out.trans (hb5.mono HB4.out.size))
  have Z18 := Lib.hid (zig18 z hz); have Z20 := Lib.hid (zig20 z hz); have Z21 := Lib.hid (zag21 (zigN z) (zig_lt hz))
  rw [zag_zig z] at Z21
  generalize zigN z = q at Z18 Z20 Z21
  clear hb5 hz
  go_wp2_with fail
  refine (Z18.out _).mono ?_
  rintro e w6 ⟨rfl, rfl⟩
  go_wp2_with fail
  refine (F19.out _).mono ?_
  rintro e w6 ⟨rfl, rfl⟩
  go_wp2_with fail
  refine (Z20.out _).mono ?_
  rintro e w6 ⟨rfl, rfl⟩
  go_wp2_with fail
  refine (Z21.out _).mono ?_
  rintro e w6 ⟨rfl, rfl⟩
  go_wp2_with fail
  refine (G21.out _).mono ?_
  rintro e w6 ⟨rfl, rfl⟩
  go_wp2_with fail
  refine (G22.out _).mono ?_
  rintro e w6 ⟨rfl, rfl⟩
  go_wp2_with fail
  refine (G21.out _).mono ?_
  rintro e w6 ⟨rfl, rfl⟩
  go_wp2_with fail
  refine (G18.out _).mono ?_
  rintro e w6 ⟨rfl, rfl⟩
  go_wp2_with fail
  refine (F23.out _).mono ?_
  rintro e w6 ⟨rfl, rfl⟩
  go_wp2_with fail
  refine (F2.out _).mono ?_
  rintro e w6 ⟨rfl, rfl⟩
  go_wp2_with fail
  refine (draw24 _ bo m d (HB.out.after HB5.out) (by omega)).mono ?_
  rintro e w6 ⟨t, y, ht, hy0, hy1, rfl, hb6⟩
  have HB6 := Lib.hid (HB5.out.trans (hb6.mono HB5.out.size))
  clear hb6 HB
  cases hr : rvN t y with
  | none =>
    have HR := Lib.hid hr
    have hrv : rvV y none = .tuple #[.int .u64 0, .int .i64 0, .bool false] := rfl
    clear hr
    go_wp2_with fail
    refine (rv15 t y (by omega) _).mono ?_
    rintro e w7 ⟨rfl, hb7⟩
    have HB7 := Lib.hid (HB6.out.trans (hb7.mono HB6.out.size))
    clear hb7
    rw [HR.out, hrv]
    go_wp2_with fail
    refine (rv25 t y (by omega) _).mono ?_
    rintro e w8 ⟨rfl, hb8⟩
    have HB8 := Lib.hid (HB7.out.trans (hb8.mono HB7.out.size))
    clear hb8
    rw [HR.out, hrv]
    go_wp2
    go_quiet (fail)
    go_wp2
    go_ret
    exact ⟨rfl, below_drewN HB8.out nq⟩
  | some p =>
    have HR := Lib.hid hr
    obtain ⟨_, h0, h1, hst⟩ := rvN_is hr
    obtain ⟨a, rfl⟩ := Int.eq_ofNat_of_zero_le h0
    obtain ⟨E, hE⟩ : ∃ E, E = a + (putV p).length := ⟨_, rfl⟩
    have hrv : rvV (a : Int) (some p) = .tuple #[.int .u64 p, .int .i64 (E : Int), .bool true] := by rw [hE]; rfl
    have hst' : Stands (t.data.toList.drop a) p := by simpa using hst
    obtain ⟨hEs, heq⟩ := stands_cut (by omega) hE hst'
    have hp := hst.1
    have hcut := cut_any (s := t) (a := a) (E := E) (by omega) hEs
    have HP := Lib.hid hp
    clear hr hst hst' hp hE
    go_wp2_with fail
    refine (rv15 t a (by omega) _).mono ?_
    rintro e w7 ⟨rfl, hb7⟩
    have HB7 := Lib.hid (HB6.out.trans (hb7.mono HB6.out.size))
    clear hb7
    rw [HR.out, hrv]
    go_wp2_with fail
    refine (rv25 t a (by omega) _).mono ?_
    rintro e w8 ⟨rfl, hb8⟩
    have HB8 := Lib.hid (HB7.out.trans (hb8.mono HB7.out.size))
    clear hb8
    rw [HR.out, hrv]
    clear hrv
    go_wp2
    go_region_held3 (fun _ => True) (trivial) (first | (go_at_call 14; refine (put14 p HP.out _).mono ?_; rintro e w9 ⟨rfl, hb9⟩))
    have HB9 := Lib.hid (HB8.out.drew.trans (hb9.mono HB8.out.size))
    clear hb9
    go_wp2
    go_ret
    exact ⟨rfl, HB9.out⟩
end Go.Proofs.Ytopcnhfphbmlaaa
