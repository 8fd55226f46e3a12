/- Contracts of SumValues in the program and in the model, over this seat's translation: of a list of at most 200 values both answer the same sum, a NaN made clean; the world has at most drawn. -/
import Derived.Test.YtkpfjjkblfjodaaKinds
import Derived.Test.YtkpfjjkblfjodaaSum
import Derived.Deep.Draws
namespace Go.Proofs.Ytkpfjjkblfjodaa
open Go.RowKit

/-- A slice of float64 that holds the bits xs. -/
structure FRow (w : World) (ao : Option Addr) (xs : List Nat) : Prop where
  wf : ∀ x ∈ xs, x < 18446744073709551616
  rows : 0 < xs.length → ∃ b off, ao = some ⟨b, off, none⟩ ∧ b < w.heap.size ∧ ∀ i, i < xs.length → w.cell? ⟨b, off + i, none⟩ = some (.float .f64 (xs.getD i 0))

theorem ret_float {a b : Nat} (h : a = b) : Ending.returned (.float .f64 a) = .returned (.float .f64 b) := by rw [h]

theorem clean55 (v : Nat) (hv : v < 18446744073709551616) (w : World) : Calls Try.prog 55 #[.float .f64 v] w fun e w' => e = .returned (.float .f64 (nanClean v)) ∧ w = w' := by
  have hk := kindB_zero v
  have hc : Hid (nanClean v = if isNan v then 9221120237041090561 else v) := Lib.hid rfl
  cases hn : isNan v
  all_goals
    rw [hn] at hk hc
    go_enter Try.func55, Try.ntmps55
    go_wp2_with (first | (go_at_call 18; refine (kind18 _ hv _).mono ?_; rintro e w' ⟨rfl, rfl⟩) | (go_at_call 22; refine (from22 _ _).mono ?_; rintro e w' ⟨rfl, rfl⟩))
    go_ret
    exact ⟨ret_float (by rw [hc.out]; rfl), rfl⟩

theorem clean56 (v : Nat) (hv : v < 18446744073709551616) (w : World) : Calls Try.prog 56 #[.float .f64 v] w fun e w' => e = .returned (.float .f64 (nanClean v)) ∧ w = w' := by
  have h := run46
  have hc : Hid (nanClean v = if isNan v then 9221120237041090561 else v) := Lib.hid rfl
  cases hn : isNan v
  all_goals
    rw [hn] at hc
    go_enter Try.func56, Try.ntmps56
    go_wp2_with (first | (go_at_call 52; refine (nan52 _ hv _).mono ?_; rintro e w' ⟨rfl, rfl⟩))
    go_ret
    exact ⟨ret_float (by rw [hc.out]; rfl), rfl⟩

theorem take_snoc {xs : List Nat} {k : Nat} (h : k < xs.length) : xs.take (k + 1) = xs.take k ++ [xs.getD k 0] := by
  rw [List.take_succ_eq_append_getElem h]; simp [List.getD, h]

set_option maxHeartbeats 1000000 in
theorem sum38 (w : World) (ao : Option Addr) (cap : Nat) (xs : List Nat) (h : FRow w ao xs) (hn : xs.length ≤ 200) :
    Calls Try.prog 38 #[.slice ao xs.length cap] w fun e w' => e = .returned (.tuple #[.float .f64 (cleanB (sumB xs)), .bool true]) ∧ ∃ q, w' = w.drewN q := by
  have H := Lib.hid h
  clear h
  go_enter Try.func38, Try.ntmps38
  go_wp2
  go_loopw [4, 12] (fun v i wr => ∃ k s : Nat, k ≤ xs.length ∧ i = .int .i64 k ∧ v = .float .f64 s ∧ Hid (Acc (sumB (xs.take k)) s) ∧ ∃ q, wr = w.drewN q) (fun _ i _ => xs.length - (intOf i).toNat)
  case atStart => exact ⟨0, 0, Nat.zero_le _, rfl, rfl, Lib.hid acc_start, 0, rfl⟩
  case round =>
    obtain ⟨k, s, hk, rfl, rfl, hacc, q, rfl⟩ := hrel
    by_cases hlt : k < xs.length
    · obtain ⟨b, off, hao, hb, hc⟩ := H.out.rows (by omega)
      subst hao
      have hck := hc k hlt
      clear hc
      have hsn : Hid (sumB (xs.take (k + 1)) = accB (sumB (xs.take k)) (xs.getD k 0)) := Lib.hid (by rw [take_snoc hlt, sumB_snoc])
      obtain ⟨x, hx⟩ : ∃ x, x = xs.getD k 0 := ⟨_, rfl⟩
      rw [← hx] at hck hsn
      clear hx
      cases hadd : Ieee.double.add s x with
      | some r =>
        have hop := fun t w => run_add_some (P := Try.prog) hadd t w
        have hA := Lib.hid hadd
        clear hadd
        go_wp2
        go_roundw
        case rel => exact ⟨k + 1, r, by omega, by go_num, rfl, Lib.hid (by rw [hsn.out]; exact acc_some hacc.out hA.out), q, rfl⟩
        case measure => simp [intOf]; omega
      | none =>
        have hop := fun t w => run_add_none (P := Try.prog) hadd t w
        have hA := Lib.hid hadd
        clear hadd
        go_wp2
        go_roundw
        case rel => exact ⟨k + 1, _, by omega, by go_num, rfl, Lib.hid (by rw [hsn.out]; exact acc_none hacc.out hA.out (nanPick_nan _ _ _) (nanPick_lt _ _ _)), q + 1, rfl⟩
        case measure => simp [intOf]; omega
    · go_wp2_with (go_at_call 55; refine (clean55 _ hacc.out.1 _).mono ?_; rintro e w' ⟨rfl, rfl⟩)
      go_ret2
      refine ⟨?_, q, rfl⟩
      rw [clean_acc hacc.out, List.take_of_length_le (by omega)]
      rfl
set_option maxHeartbeats 1000000 in
theorem sum39 (w : World) (ao : Option Addr) (cap : Nat) (xs : List Nat) (h : FRow w ao xs) (hn : xs.length ≤ 200) :
    Calls Try.prog 39 #[.slice ao xs.length cap] w fun e w' => e = .returned (.tuple #[.float .f64 (cleanB (sumB xs)), .bool true]) ∧ ∃ q, w' = w.drewN q := by
  have H := Lib.hid h
  clear h
  go_enter Try.func39, Try.ntmps39
  go_wp2
  go_loopw [4, 12] (fun v i wr => ∃ k s : Nat, k ≤ xs.length ∧ i = .int .i64 k ∧ v = .float .f64 s ∧ Hid (Acc (sumB (xs.take k)) s) ∧ ∃ q, wr = w.drewN q) (fun _ i _ => xs.length - (intOf i).toNat)
  case atStart => exact ⟨0, 0, Nat.zero_le _, rfl, rfl, Lib.hid acc_start, 0, rfl⟩
  case round =>
    obtain ⟨k, s, hk, rfl, rfl, hacc, q, rfl⟩ := hrel
    by_cases hlt : k < xs.length
    · obtain ⟨b, off, hao, hb, hc⟩ := H.out.rows (by omega)
      subst hao
      have hck := hc k hlt
      clear hc
      have hsn : Hid (sumB (xs.take (k + 1)) = accB (sumB (xs.take k)) (xs.getD k 0)) := Lib.hid (by rw [take_snoc hlt, sumB_snoc])
      obtain ⟨x, hx⟩ : ∃ x, x = xs.getD k 0 := ⟨_, rfl⟩
      rw [← hx] at hck hsn
      clear hx
      cases hadd : Ieee.double.add s x with
      | some r =>
        have hop := fun t w => run_add_some (P := Try.prog) hadd t w
        have hA := Lib.hid hadd
        clear hadd
        go_wp2
        go_roundw
        case rel => exact ⟨k + 1, r, by omega, by go_num, rfl, Lib.hid (by rw [hsn.out]; exact acc_some hacc.out hA.out), q, rfl⟩
        case measure => simp [intOf]; omega
      | none =>
        have hop := fun t w => run_add_none (P := Try.prog) hadd t w
        have hA := Lib.hid hadd
        clear hadd
        go_wp2
        go_roundw
        case rel => exact ⟨k + 1, _, by omega, by go_num, rfl, Lib.hid (by rw [hsn.out]; exact acc_none hacc.out hA.out (nanPick_nan _ _ _) (nanPick_lt _ _ _)), q + 1, rfl⟩
        case measure => simp [intOf]; omega
    · go_wp2_with (go_at_call 56; refine (clean56 _ hacc.out.1 _).mono ?_; rintro e w' ⟨rfl, rfl⟩)
      go_ret2
      refine ⟨?_, q, rfl⟩
      rw [clean_acc hacc.out, List.take_of_length_le (by omega)]
      rfl

theorem sum38_no (w : World) (ao : Option Addr) (n cap : Nat) (hn : 200 < n) :
    Calls Try.prog 38 #[.slice ao n cap] w fun e w' => e = .returned (.tuple #[.float .f64 0, .bool false]) ∧ w = w' := by
  go_enter Try.func38, Try.ntmps38
  go_wp2
  go_ret2
  exact ⟨rfl, rfl⟩


theorem sum39_no (w : World) (ao : Option Addr) (n cap : Nat) (hn : 200 < n) :
    Calls Try.prog 39 #[.slice ao n cap] w fun e w' => e = .returned (.tuple #[.float .f64 0, .bool false]) ∧ w = w' := by
  go_enter Try.func39, Try.ntmps39
  go_wp2
  go_ret2
  exact ⟨rfl, rfl⟩

end Go.Proofs.Ytkpfjjkblfjodaa
