/- Contracts of reading a number off a text, in the program and in the model, over this seat's translation: both sides answer readV; only new memory is written. -/
import Derived.Test.YteiefngamccapaaK1
import Derived.Deep.RegionWith
import Derived.OwnWalk
namespace Go.Proofs.Yteiefngamccapaa
open Go.RowKit Go.Deep

/-- What the model's reader answers at place a. -/
def ReadM (D : List UInt8) (a : Nat) (w : World) (e : Ending) (w' : World) : Prop :=
  ((readV D = none ∧ e = .returned (.tuple #[.int .u64 0, .int .i64 (-1)])) ∨ (∃ m : Nat, readV D = some m ∧ e = .returned (.tuple #[.int .u64 m, .int .i64 (a + (putV m).length : Nat)]))) ∧ Below w.heap.size w w'

set_option maxRecDepth 100000 in
theorem and127 : ∀ c, c < 256 → bits .and .u8 ((c : Nat) : Int) 127 = ((c % 128 : Nat) : Int) := by decide +kernel
set_option maxRecDepth 100000 in
theorem not128 : ∀ c, c < 256 → bits .andNot .u8 ((c : Nat) : Int) 128 = ((c % 128 : Nat) : Int) := by decide +kernel
theorem acc_bits {D : List UInt8} {k : Nat} (hk : k < D.length) (h9 : k ≤ 9) {x : Int} (hx : x = (((D[k]'hk).toNat % 128 : Nat) : Int)) :
    bits .or .u64 (acc D k : Int) (IntKind.u64.wrap (IntKind.u64.wrap x * 2 ^ (7 * k))) = (acc D (k + 1) : Int) := by
  have e1 : IntKind.u64.wrap x = (((D[k]'hk).toNat % 128 : Nat) : Int) := by rw [hx, IntKind.wrap_u64]; omega
  have e2 : ∀ y : Nat, (y : Int) * 2 ^ (7 * k) % 18446744073709551616 = ((y * 2 ^ (7 * k) % 18446744073709551616 : Nat) : Int) := by
    intro y
    rw [Int.natCast_emod, Int.natCast_mul, Int.natCast_pow]; rfl
  rw [e1, IntKind.wrap_u64, e2, bits_or_u64_nat _ _ (acc_lt _ _) (Nat.mod_lt _ (by decide)), acc_step hk h9]
theorem acc_m {s : ByteArray} {a k : Nat} (h : a + k < s.size) (h9 : k ≤ 9) :
    bits .or .u64 (acc (s.data.toList.drop a) k : Int) (IntKind.u64.wrap (IntKind.u64.wrap (bits .and .u8 ((s[a + k]'h).toNat : Int) 127) * 2 ^ (7 * k))) = (acc (s.data.toList.drop a) (k + 1) : Int) :=
  acc_bits (by rw [List.length_drop]; show k < s.size - a; omega) h9 (by rw [and127 _ (s[a + k]'h).toNat_lt, bytes_from h])
theorem acc_p {s : ByteArray} {a k : Nat} (h : a + k < s.size) (h9 : k ≤ 9) :
    bits .or .u64 (acc (s.data.toList.drop a) k : Int) (IntKind.u64.wrap (IntKind.u64.wrap (bits .andNot .u8 ((s[a + k]'h).toNat : Int) 128) * 2 ^ (7 * k))) = (acc (s.data.toList.drop a) (k + 1) : Int) :=
  acc_bits (by rw [List.length_drop]; show k < s.size - a; omega) h9 (by rw [not128 _ (s[a + k]'h).toNat_lt, bytes_from h])

theorem ret_ui {a b c d : Int} (h : a = b) (h' : c = d) : Ending.returned (.tuple #[.int .u64 a, .int .i64 c]) = .returned (.tuple #[.int .u64 b, .int .i64 d]) := by rw [h, h']
theorem cut_run {s : ByteArray} {a k : Nat} (h : a + k < s.size) : ∀ W, (Instr.slice 9 (.string s) (some (.int .i64 a)) (some (.int .i64 ((a : Int) + (k : Int) + 1))) none).run Try.prog W = .ok (.string (s.extract a (a + k + 1))) W := fun W => by
  rw [run_slice_string W 9 s .i64 .i64 (a : Int) ((a : Int) + (k : Int) + 1) Try.underlying9 (by omega) (by omega) (by omega), show ((a : Int) + (k : Int) + 1).toNat = a + k + 1 by omega, Int.toNat_natCast]
theorem wrap_at {a k : Nat} (h : a + k ≤ 1048576) : IntKind.i64.wrap ((a : Int) + (k : Int)) = (a : Int) + (k : Int) ∧ IntKind.i64.wrap ((a : Int) + (k : Int) + 1) = (a : Int) + (k : Int) + 1 := by
  rw [IntKind.wrap_i64, IntKind.wrap_i64]; omega

set_option maxHeartbeats 2000000 in
set_option maxRecDepth 100000 in
theorem read45 (s : ByteArray) (a : Nat) (hs : s.size ≤ 1048576) (ha : a ≤ s.size) (w : World) : Calls Try.prog 98 #[.string s, .int .i64 a] w (ReadM (s.data.toList.drop a) a w) := by
  go_enter Try.func98, Try.ntmps98
  go_wp2
  go_loopw [6, 7] (fun q i wr => ∃ k : Nat, k ≤ 10 ∧ a + k ≤ s.size ∧ i = .int .i64 k ∧ q = .int .u64 (acc (s.data.toList.drop a) k) ∧ Hid (Highs (s.data.toList.drop a) k) ∧ wr = w) (fun _ i _ => 10 - (intOf i).toNat)
  case atStart => exact ⟨0, by omega, by omega, rfl, by rw [acc_zero]; rfl, Lib.hid (fun i hi => by omega), rfl⟩
  case round =>
    obtain ⟨k, hk, hak, rfl, rfl, hH, rfl⟩ := hrel
    have hlen : (s.data.toList.drop a).length = s.size - a := by rw [List.length_drop]; rfl
    by_cases hlt : k < 10 ∧ a + k < s.size
    · obtain ⟨h10, hks⟩ := hlt
      have hD : k < (s.data.toList.drop a).length := by omega
      have HX := Lib.hid (acc_m hks (by omega))
      have hby := (s[a + k]'hks).toNat_lt
      have HA := Lib.hid (acc_lt (s.data.toList.drop a) (k + 1))
      have HBs := Lib.hid (bytes_from hks)
      by_cases hb : (s[a + k]'hks).toNat < 128
      · have HN := Lib.hid (fun hne => read_no hD hH.out (by rw [HBs.out]; exact hb) hne)
        have HY := Lib.hid (fun he => read_yes hD he)
        have HT := Lib.hid (txt_eq (s := s) (a := a) (k := k + 1) (n := acc (s.data.toList.drop a) (k + 1)))
        clear hlen hD hH
        by_cases hq : putV (acc (s.data.toList.drop a) (k + 1)) = (s.data.toList.drop a).take (k + 1)
        · have hq' : ((txtV (acc (s.data.toList.drop a) (k + 1))).toList == (s.extract a (a + k + 1)).toList) = true := by
            rw [Nat.add_assoc, HT.out]; simpa using hq
          have HR := Lib.hid (HY.out hq)
          clear hq HN HY HT
          have hcut := cut_run hks
          obtain ⟨hw1, hw2⟩ := wrap_at (a := a) (k := k) (by omega)
          go_wp2_with fail
          rw [HX.out]
          generalize acc (s.data.toList.drop a) (k + 1) = n at *
          go_region_with (go_at_call 103; refine (put39 n HA.out _).mono ?_; rintro e w2 ⟨rfl, hb2⟩; have HB2 := Lib.hid hb2; clear hb2)
          all_goals
            go_wp2
            go_ret2
            refine ⟨.inr ⟨n, HR.out.1, ret_ui rfl (by rw [HR.out.2]; omega)⟩, ?_⟩
            first | exact HB2.out | exact HB2.out.drew | exact (Below.refl _ _).drew.trans HB2.out | exact ((Below.refl _ _).drew.trans HB2.out).drew
        · have hq' : ((txtV (acc (s.data.toList.drop a) (k + 1))).toList == (s.extract a (a + k + 1)).toList) = false := by
            rw [Nat.add_assoc, HT.out]; simpa using hq
          have HR := Lib.hid (HN.out hq)
          clear hq HN HY HT
          have hcut := cut_run hks
          obtain ⟨hw1, hw2⟩ := wrap_at (a := a) (k := k) (by omega)
          go_wp2_with fail
          rw [HX.out]
          generalize acc (s.data.toList.drop a) (k + 1) = n at *
          go_region_with (go_at_call 103; refine (put39 n HA.out _).mono ?_; rintro e w2 ⟨rfl, hb2⟩; have HB2 := Lib.hid hb2; clear hb2)
          all_goals
            go_wp2
            go_ret2
            refine ⟨.inl ⟨HR.out, rfl⟩, ?_⟩
            first | exact HB2.out | exact HB2.out.drew | exact (Below.refl _ _).drew.trans HB2.out | exact ((Below.refl _ _).drew.trans HB2.out).drew
      · have HS := Lib.hid (highs_step hH.out hD (by rw [HBs.out]; omega))
        clear hlen hD hH
        go_wp2
        go_roundw
        case rel => exact ⟨k + 1, by omega, by omega, by go_num, by rw [HX.out], HS, trivial⟩
        case measure => simp [intOf]; omega
    · have HR := Lib.hid (read_ended hH.out (by omega))
      clear hlen hH
      by_cases h10 : k < 10
      · obtain rfl : k = s.size - a := by omega
        go_wp2
        go_ret2
        exact ⟨.inl ⟨HR.out, rfl⟩, Below.refl _ _⟩
      · obtain rfl : k = 10 := by omega
        go_wp2
        go_ret2
        exact ⟨.inl ⟨HR.out, rfl⟩, Below.refl _ _⟩

theorem ret_uib {a b c d : Int} {p q : Bool} (h : a = b) (h' : c = d) (h'' : p = q) : Ending.returned (.tuple #[.int .u64 a, .int .i64 c, .bool p]) = .returned (.tuple #[.int .u64 b, .int .i64 d, .bool q]) := by rw [h, h', h'']
/-- What the program's reader answers at place a. -/
def ReadP (D : List UInt8) (a : Nat) (w : World) (e : Ending) (w' : World) : Prop :=
  ((readV D = none ∧ e = .returned (.tuple #[.int .u64 0, .int .i64 0, .bool false])) ∨ (∃ m : Nat, readV D = some m ∧ e = .returned (.tuple #[.int .u64 m, .int .i64 (a + (putV m).length : Nat), .bool true]))) ∧ Below w.heap.size w w'

set_option maxHeartbeats 2000000 in
set_option maxRecDepth 100000 in
theorem read38 (s : ByteArray) (a : Nat) (hs : s.size ≤ 1048576) (ha : a ≤ s.size) (w : World) : Calls Try.prog 113 #[.string s, .int .i64 a] w (ReadP (s.data.toList.drop a) a w) := by
  go_enter Try.func113, Try.ntmps113
  go_wp2
  · go_loopw [7, 16] (fun q i wr => ∃ k : Nat, k ≤ 10 ∧ a + k ≤ s.size ∧ i = .int .i64 k ∧ q = .int .u64 (acc (s.data.toList.drop a) k) ∧ Hid (Highs (s.data.toList.drop a) k) ∧ wr = w) (fun _ i _ => 10 - (intOf i).toNat)
    case atStart => exact ⟨0, by omega, by omega, rfl, by rw [acc_zero]; rfl, Lib.hid (fun i hi => by omega), rfl⟩
    case round =>
      obtain ⟨k, hk, hak, rfl, rfl, hH, rfl⟩ := hrel
      have hlen : (s.data.toList.drop a).length = s.size - a := by rw [List.length_drop]; rfl
      by_cases hlt : k < 10 ∧ a + k < s.size
      · obtain ⟨h10, hks⟩ := hlt
        have hD : k < (s.data.toList.drop a).length := by omega
        have HX := Lib.hid (acc_p hks (by omega))
        have hby := (s[a + k]'hks).toNat_lt
        have HA := Lib.hid (acc_lt (s.data.toList.drop a) (k + 1))
        have HBs := Lib.hid (bytes_from hks)
        by_cases hb : (s[a + k]'hks).toNat < 128
        · have HN := Lib.hid (fun hne => read_no hD hH.out (by rw [HBs.out]; exact hb) hne)
          have HY := Lib.hid (fun he => read_yes hD he)
          have HT := Lib.hid (txt_eq (s := s) (a := a) (k := k + 1) (n := acc (s.data.toList.drop a) (k + 1)))
          clear hlen hD hH
          by_cases hq : putV (acc (s.data.toList.drop a) (k + 1)) = (s.data.toList.drop a).take (k + 1)
          · have hq' : ((txtV (acc (s.data.toList.drop a) (k + 1))).toList == (s.extract a (a + k + 1)).toList) = true := by
              rw [Nat.add_assoc, HT.out]; simpa using hq
            have HR := Lib.hid (HY.out hq)
            clear hq HN HY HT
            have hcut := cut_run hks
            obtain ⟨hw1, hw2⟩ := wrap_at (a := a) (k := k) (by omega)
            go_wp2_with fail
            rw [HX.out]
            generalize acc (s.data.toList.drop a) (k + 1) = n at *
            go_region_with (go_at_call 108; refine (put14 n HA.out _).mono ?_; rintro e w2 ⟨rfl, hb2⟩; have HB2 := Lib.hid hb2; clear hb2)
            all_goals
              go_wp2
              go_ret3
              refine ⟨.inr ⟨n, HR.out.1, ret_uib rfl (by rw [HR.out.2]; omega) rfl⟩, ?_⟩
              first | exact HB2.out | exact HB2.out.drew | exact (Below.refl _ _).drew.trans HB2.out | exact ((Below.refl _ _).drew.trans HB2.out).drew
          · have hq' : ((txtV (acc (s.data.toList.drop a) (k + 1))).toList == (s.extract a (a + k + 1)).toList) = false := by
              rw [Nat.add_assoc, HT.out]; simpa using hq
            have HR := Lib.hid (HN.out hq)
            clear hq HN HY HT
            have hcut := cut_run hks
            obtain ⟨hw1, hw2⟩ := wrap_at (a := a) (k := k) (by omega)
            go_wp2_with fail
            rw [HX.out]
            generalize acc (s.data.toList.drop a) (k + 1) = n at *
            go_region_with (go_at_call 108; refine (put14 n HA.out _).mono ?_; rintro e w2 ⟨rfl, hb2⟩; have HB2 := Lib.hid hb2; clear hb2)
            all_goals
              go_wp2
              go_ret3
              refine ⟨.inl ⟨HR.out, rfl⟩, ?_⟩
              first | exact HB2.out | exact HB2.out.drew | exact (Below.refl _ _).drew.trans HB2.out | exact ((Below.refl _ _).drew.trans HB2.out).drew
        · have HS := Lib.hid (highs_step hH.out hD (by rw [HBs.out]; omega))
          clear hlen hD hH
          go_wp2
          go_roundw
          case rel => exact ⟨k + 1, by omega, by omega, by go_num, by rw [HX.out], HS, trivial⟩
          case measure => simp [intOf]; omega
      · have HR := Lib.hid (read_ended hH.out (by omega))
        clear hlen hH
        by_cases h10 : k < 10
        · exfalso; omega
        · obtain rfl : k = 10 := by omega
          go_wp2
          go_ret3
          exact ⟨.inl ⟨HR.out, rfl⟩, Below.refl _ _⟩
  · go_loopw [7, 16] (fun q i wr => ∃ k : Nat, k ≤ 10 ∧ a + k ≤ s.size ∧ i = .int .i64 k ∧ q = .int .u64 (acc (s.data.toList.drop a) k) ∧ Hid (Highs (s.data.toList.drop a) k) ∧ wr = w) (fun _ i _ => 10 - (intOf i).toNat)
    case atStart => exact ⟨0, by omega, by omega, rfl, by rw [acc_zero]; rfl, Lib.hid (fun i hi => by omega), rfl⟩
    case round =>
      obtain ⟨k, hk, hak, rfl, rfl, hH, rfl⟩ := hrel
      have hlen : (s.data.toList.drop a).length = s.size - a := by rw [List.length_drop]; rfl
      by_cases hlt : k < 10 ∧ a + k < s.size
      · obtain ⟨h10, hks⟩ := hlt
        have hD : k < (s.data.toList.drop a).length := by omega
        have HX := Lib.hid (acc_p hks (by omega))
        have hby := (s[a + k]'hks).toNat_lt
        have HA := Lib.hid (acc_lt (s.data.toList.drop a) (k + 1))
        have HBs := Lib.hid (bytes_from hks)
        by_cases hb : (s[a + k]'hks).toNat < 128
        · have HN := Lib.hid (fun hne => read_no hD hH.out (by rw [HBs.out]; exact hb) hne)
          have HY := Lib.hid (fun he => read_yes hD he)
          have HT := Lib.hid (txt_eq (s := s) (a := a) (k := k + 1) (n := acc (s.data.toList.drop a) (k + 1)))
          clear hlen hD hH
          by_cases hq : putV (acc (s.data.toList.drop a) (k + 1)) = (s.data.toList.drop a).take (k + 1)
          · have hq' : ((txtV (acc (s.data.toList.drop a) (k + 1))).toList == (s.extract a (a + k + 1)).toList) = true := by
              rw [Nat.add_assoc, HT.out]; simpa using hq
            have HR := Lib.hid (HY.out hq)
            clear hq HN HY HT
            have hcut := cut_run hks
            obtain ⟨hw1, hw2⟩ := wrap_at (a := a) (k := k) (by omega)
            go_wp2_with fail
            rw [HX.out]
            generalize acc (s.data.toList.drop a) (k + 1) = n at *
            go_region_with (go_at_call 108; refine (put14 n HA.out _).mono ?_; rintro e w2 ⟨rfl, hb2⟩; have HB2 := Lib.hid hb2; clear hb2)
            all_goals
              go_wp2
              go_ret3
              refine ⟨.inr ⟨n, HR.out.1, ret_uib rfl (by rw [HR.out.2]; omega) rfl⟩, ?_⟩
              first | exact HB2.out | exact HB2.out.drew | exact (Below.refl _ _).drew.trans HB2.out | exact ((Below.refl _ _).drew.trans HB2.out).drew
          · have hq' : ((txtV (acc (s.data.toList.drop a) (k + 1))).toList == (s.extract a (a + k + 1)).toList) = false := by
              rw [Nat.add_assoc, HT.out]; simpa using hq
            have HR := Lib.hid (HN.out hq)
            clear hq HN HY HT
            have hcut := cut_run hks
            obtain ⟨hw1, hw2⟩ := wrap_at (a := a) (k := k) (by omega)
            go_wp2_with fail
            rw [HX.out]
            generalize acc (s.data.toList.drop a) (k + 1) = n at *
            go_region_with (go_at_call 108; refine (put14 n HA.out _).mono ?_; rintro e w2 ⟨rfl, hb2⟩; have HB2 := Lib.hid hb2; clear hb2)
            all_goals
              go_wp2
              go_ret3
              refine ⟨.inl ⟨HR.out, rfl⟩, ?_⟩
              first | exact HB2.out | exact HB2.out.drew | exact (Below.refl _ _).drew.trans HB2.out | exact ((Below.refl _ _).drew.trans HB2.out).drew
        · have HS := Lib.hid (highs_step hH.out hD (by rw [HBs.out]; omega))
          clear hlen hD hH
          go_wp2
          go_roundw
          case rel => exact ⟨k + 1, by omega, by omega, by go_num, by rw [HX.out], HS, trivial⟩
          case measure => simp [intOf]; omega
      · have HR := Lib.hid (read_ended hH.out (by omega))
        clear hlen hH
        by_cases h10 : k < 10
        · obtain rfl : k = s.size - a := by omega
          go_wp2
          go_ret3
          exact ⟨.inl ⟨HR.out, rfl⟩, Below.refl _ _⟩
        · obtain rfl : k = 10 := by omega
          go_wp2
          go_ret3
          exact ⟨.inl ⟨HR.out, rfl⟩, Below.refl _ _⟩

theorem in44 (n lo hi : Int) (w : World) : Calls Try.prog 53 #[.int .i64 n, .int .i64 lo, .int .i64 hi] w fun e w' => e = .returned (.bool (decide (lo ≤ n) && decide (n ≤ hi))) ∧ w = w' := by
  by_cases h1 : lo ≤ n
  · by_cases h2 : n ≤ hi
    · go_enter Try.func53, Try.ntmps53
      go_wp2
      go_ret
      exact ⟨by simp [h1, h2], rfl⟩
    · go_enter Try.func53, Try.ntmps53
      go_wp2
      go_ret
      exact ⟨by simp [h2], rfl⟩
  · go_enter Try.func53, Try.ntmps53
    go_wp2
    go_ret
    exact ⟨by simp; omega, rfl⟩
end Go.Proofs.Yteiefngamccapaa
