/- Contracts of RangeOf in the program and in the model, over this seat's translation: of a list of at most 200 values both answer the same two values and the same bool, with the world unchanged. -/
import Derived.Test.YtkpfjjkblfjodaaSums
namespace Go.Proofs.Ytkpfjjkblfjodaa
open Go.RowKit

def rngStep (s : Nat × Nat × Bool) (x : Nat) : Nat × Nat × Bool :=
  if isNan x then s else (if !s.2.2 || lessB x s.1 then x else s.1, if !s.2.2 || lessB s.2.1 x then x else s.2.1, true)
def rngB (xs : List Nat) : Nat × Nat × Bool := xs.foldl rngStep (0, 0, false)
theorem rngB_snoc (xs : List Nat) (x : Nat) : rngB (xs ++ [x]) = rngStep (rngB xs) x := by simp [rngB]

theorem ret_rng {l l' h h' : Nat} {f f' : Bool} (e : (l, h, f) = (l', h', f')) : Ending.returned (.tuple #[.float .f64 l, .float .f64 h, .bool f]) = .returned (.tuple #[.float .f64 l', .float .f64 h', .bool f']) := by
  cases e; rfl

set_option maxHeartbeats 2000000 in
theorem range35 (w : World) (ao : Option Addr) (cap : Nat) (xs : List Nat) (h : FRow w ao xs) (hn : xs.length ≤ 200) :
    Calls Try.prog 35 #[.slice ao xs.length cap] w fun e w' => e = .returned (.tuple #[.float .f64 (rngB xs).1, .float .f64 (rngB xs).2.1, .bool (rngB xs).2.2]) ∧ w = w' := by
  have H := Lib.hid h
  clear h
  go_enter Try.func35, Try.ntmps35
  go_wp2
  go_loop [5, 6, 7, 15] (fun l h f i => ∃ (k lo hi : Nat) (s : Bool), k ≤ xs.length ∧ lo < 18446744073709551616 ∧ hi < 18446744073709551616 ∧ i = .int .i64 k ∧ l = .float .f64 lo ∧ h = .float .f64 hi ∧ f = .bool s ∧ Hid (rngB (xs.take k) = (lo, hi, s))) (fun _ _ _ i => xs.length - (intOf i).toNat)
  case atStart => exact ⟨0, 0, 0, false, Nat.zero_le _, by decide, by decide, rfl, rfl, rfl, rfl, Lib.hid rfl⟩
  case round =>
    obtain ⟨k, lo, hi, s, hk, hlo, hhi, rfl, rfl, rfl, rfl, hacc⟩ := hrel
    by_cases hlt : k < xs.length
    · obtain ⟨b, off, hao, hb, hc⟩ := H.out.rows (by omega)
      subst hao
      have hck := hc k hlt
      clear hc
      have hsn : Hid (rngB (xs.take (k + 1)) = rngStep (lo, hi, s) (xs.getD k 0)) := Lib.hid (by rw [take_snoc hlt, rngB_snoc, hacc.out])
      have hx : xs.getD k 0 < 18446744073709551616 := H.out.wf _ (by simp [List.getD, hlt])
      generalize xs.getD k 0 = x at hck hsn hx
      have hkx := kindB_zero x
      cases hnx : isNan x
      · rw [hnx] at hkx
        have hst : Hid (rngStep (lo, hi, s) x = (if !s || lessB x lo then x else lo, if !s || lessB hi x then x else hi, true)) := Lib.hid (by simp [rngStep, hnx])
        cases s
        · go_wp2_with (first | (go_at_call 18; refine (kind18 _ hx _).mono ?_; rintro e w' ⟨rfl, rfl⟩))
          go_round
          case rel => exact ⟨k + 1, x, x, true, by omega, hx, hx, by go_num, rfl, rfl, rfl, Lib.hid (by rw [hsn.out, hst.out]; rfl)⟩
          case measure => simp [intOf]; omega
        · cases h1 : lessB x lo <;> cases h2 : lessB hi x
          all_goals
            rw [h1, h2] at hst
            go_wp2_with (first | (go_at_call 18; refine (kind18 _ hx _).mono ?_; rintro e w' ⟨rfl, rfl⟩) | (go_at_call 25; refine (less25 _ _ (by assumption) (by assumption) _).mono ?_; rintro e w' ⟨rfl, rfl⟩))
            go_round
            case rel => exact ⟨k + 1, _, _, true, by omega, by assumption, by assumption, by go_num, rfl, rfl, rfl, Lib.hid (by rw [hsn.out, hst.out]; rfl)⟩
            case measure => simp [intOf]; omega
      · rw [hnx] at hkx
        have hst : Hid (rngStep (lo, hi, s) x = (lo, hi, s)) := Lib.hid (by simp [rngStep, hnx])
        go_wp2_with (first | (go_at_call 18; refine (kind18 _ hx _).mono ?_; rintro e w' ⟨rfl, rfl⟩))
        go_round
        case rel => exact ⟨k + 1, lo, hi, s, by omega, hlo, hhi, by go_num, rfl, rfl, rfl, Lib.hid (by rw [hsn.out, hst.out])⟩
        case measure => simp [intOf]; omega
    · go_wp2
      go_ret3
      refine ⟨ret_rng ?_, rfl⟩
      have := hacc.out
      rw [List.take_of_length_le (by omega)] at this
      rw [this]
set_option maxHeartbeats 2000000 in
theorem range36 (w : World) (ao : Option Addr) (cap : Nat) (xs : List Nat) (h : FRow w ao xs) (hn : xs.length ≤ 200) :
    Calls Try.prog 36 #[.slice ao xs.length cap] w fun e w' => e = .returned (.tuple #[.float .f64 (rngB xs).1, .float .f64 (rngB xs).2.1, .bool (rngB xs).2.2]) ∧ w = w' := by
  have H := Lib.hid h
  clear h
  go_enter Try.func36, Try.ntmps36
  go_wp2
  go_loop [5, 6, 7, 15] (fun l h f i => ∃ (k lo hi : Nat) (s : Bool), k ≤ xs.length ∧ lo < 18446744073709551616 ∧ hi < 18446744073709551616 ∧ i = .int .i64 k ∧ l = .float .f64 lo ∧ h = .float .f64 hi ∧ f = .bool s ∧ Hid (rngB (xs.take k) = (lo, hi, s))) (fun _ _ _ i => xs.length - (intOf i).toNat)
  case atStart => exact ⟨0, 0, 0, false, Nat.zero_le _, by decide, by decide, rfl, rfl, rfl, rfl, Lib.hid rfl⟩
  case round =>
    obtain ⟨k, lo, hi, s, hk, hlo, hhi, rfl, rfl, rfl, rfl, hacc⟩ := hrel
    by_cases hlt : k < xs.length
    · obtain ⟨b, off, hao, hb, hc⟩ := H.out.rows (by omega)
      subst hao
      have hck := hc k hlt
      clear hc
      have hsn : Hid (rngB (xs.take (k + 1)) = rngStep (lo, hi, s) (xs.getD k 0)) := Lib.hid (by rw [take_snoc hlt, rngB_snoc, hacc.out])
      have hx : xs.getD k 0 < 18446744073709551616 := H.out.wf _ (by simp [List.getD, hlt])
      generalize xs.getD k 0 = x at hck hsn hx
      cases hnx : isNan x
      · have hst : Hid (rngStep (lo, hi, s) x = (if !s || lessB x lo then x else lo, if !s || lessB hi x then x else hi, true)) := Lib.hid (by simp [rngStep, hnx])
        cases s
        · go_wp2_with (first | (go_at_call 52; refine (nan52 _ hx _).mono ?_; rintro e w' ⟨rfl, rfl⟩))
          go_round
          case rel => exact ⟨k + 1, x, x, true, by omega, hx, hx, by go_num, rfl, rfl, rfl, Lib.hid (by rw [hsn.out, hst.out]; rfl)⟩
          case measure => simp [intOf]; omega
        · cases h1 : lessB x lo <;> cases h2 : lessB hi x
          all_goals
            rw [h1, h2] at hst
            go_wp2_with (first | (go_at_call 52; refine (nan52 _ hx _).mono ?_; rintro e w' ⟨rfl, rfl⟩) | (go_at_call 49; refine (less49 _ _ (by assumption) (by assumption) _).mono ?_; rintro e w' ⟨rfl, rfl⟩))
            go_round
            case rel => exact ⟨k + 1, _, _, true, by omega, by assumption, by assumption, by go_num, rfl, rfl, rfl, Lib.hid (by rw [hsn.out, hst.out]; rfl)⟩
            case measure => simp [intOf]; omega
      · have hst : Hid (rngStep (lo, hi, s) x = (lo, hi, s)) := Lib.hid (by simp [rngStep, hnx])
        go_wp2_with (first | (go_at_call 52; refine (nan52 _ hx _).mono ?_; rintro e w' ⟨rfl, rfl⟩))
        go_round
        case rel => exact ⟨k + 1, lo, hi, s, by omega, hlo, hhi, by go_num, rfl, rfl, rfl, Lib.hid (by rw [hsn.out, hst.out])⟩
        case measure => simp [intOf]; omega
    · go_wp2
      go_ret3
      refine ⟨ret_rng ?_, rfl⟩
      have := hacc.out
      rw [List.take_of_length_le (by omega)] at this
      rw [this]

theorem range35_no (w : World) (ao : Option Addr) (n cap : Nat) (hn : 200 < n) :
    Calls Try.prog 35 #[.slice ao n cap] w fun e w' => e = .returned (.tuple #[.float .f64 0, .float .f64 0, .bool false]) ∧ w = w' := by
  go_enter Try.func35, Try.ntmps35
  go_wp2
  go_ret3
  exact ⟨rfl, rfl⟩


theorem range36_no (w : World) (ao : Option Addr) (n cap : Nat) (hn : 200 < n) :
    Calls Try.prog 36 #[.slice ao n cap] w fun e w' => e = .returned (.tuple #[.float .f64 0, .float .f64 0, .bool false]) ∧ w = w' := by
  go_enter Try.func36, Try.ntmps36
  go_wp2
  go_ret3
  exact ⟨rfl, rfl⟩

end Go.Proofs.Ytkpfjjkblfjodaa
