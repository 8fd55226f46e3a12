/- Contracts of KindOf, LessValue, SameValue, IsStale, MarkStale and their like, in the program and in the model, over this seat's translation: what each call returns, with the world unchanged; bits are below 2 to the 64. -/
import Derived.Test.YtkpfjjkblfjodaaBase
import Derived.Test.YtkpfjjkblfjodaaMath
import Derived.Lib.Hide
namespace Go.Proofs.Ytkpfjjkblfjodaa

theorem ret_int {k : IntKind} {a b : Int} (h : a = b) : Ending.returned (.int k a) = .returned (.int k b) := by rw [h]
theorem ret_bool {a b : Bool} (h : a = b) : Ending.returned (.bool a) = .returned (.bool b) := by rw [h]

theorem kind18 (b : Nat) (hb : b < 18446744073709551616) (w : World) : Calls Try.prog 18 #[.float .f64 b] w fun e w' => e = .returned (.int .i64 (kindB b)) ∧ w = w' := by
  have h := run45
  go_enter Try.func18, Try.ntmps18
  go_wp2
  all_goals go_ret
  all_goals refine ⟨ret_int ?_, rfl⟩
  all_goals (simp only [and_exp b hb, and_frac b hb, bne_iff_ne, beq_iff_eq, beq_eq_false_iff_ne, bne_eq_false_iff_eq] at *; unfold kindB; repeat' split)
  all_goals omega

theorem kind23 (b : Nat) (hb : b < 18446744073709551616) (w : World) : Calls Try.prog 23 #[.float .f64 b] w fun e w' => e = .returned (.int .i64 (kindB b)) ∧ w = w' := by
  have h := run45
  go_enter Try.func23, Try.ntmps23
  go_wp2
  all_goals go_ret
  all_goals refine ⟨ret_int ?_, rfl⟩
  all_goals (simp only [and_pow11 b hb, and_frac b hb, beq_iff_eq, beq_eq_false_iff_ne] at *; unfold kindB; repeat' split)
  all_goals omega

theorem nan52 (b : Nat) (hb : b < 18446744073709551616) (w : World) : Calls Try.prog 52 #[.float .f64 b] w fun e w' => e = .returned (.bool (isNan b)) ∧ w = w' := by
  have hk := kindB_zero b
  go_enter Try.func52, Try.ntmps52
  go_wp2_with (go_at_call 23; refine (kind23 _ hb _).mono ?_; rintro e w' ⟨rfl, rfl⟩)
  go_ret
  exact ⟨rfl, rfl⟩

theorem place58 (b : Nat) (hb : b < 18446744073709551616) (w : World) : Calls Try.prog 58 #[.float .f64 b] w fun e w' => e = .returned (.int .i64 (placeB b)) ∧ w = w' := by
  have h := run45
  go_enter Try.func58, Try.ntmps58
  go_wp2
  all_goals go_ret
  all_goals refine ⟨ret_int ?_, rfl⟩
  all_goals (simp only [and_low63 b hb, beq_iff_eq, beq_eq_false_iff_ne, RowKit.wrap64] at *; unfold placeB; split)
  all_goals omega

theorem rank48 (b : Nat) (hb : b < 18446744073709551616) (w : World) : Calls Try.prog 48 #[.float .f64 b] w fun e w' => e = .returned (.int .u64 (rankB b)) ∧ w = w' := by
  have h := run45
  have hs : IntKind.u64.signed = false := rfl
  go_enter Try.func48, Try.ntmps48
  go_wp2
  all_goals go_ret
  all_goals refine ⟨ret_int ?_, rfl⟩
  · simp only [and_sign b hb, bne_iff_ne, ne_eq] at *
    rw [xor_max b hb]
    unfold rankB
    split
    all_goals omega
  · simp only [and_sign b hb, bne_eq_false_iff_eq] at *
    rw [or_sign b (by omega)]
    unfold rankB
    split
    all_goals omega

theorem less25 (a b : Nat) (ha : a < 18446744073709551616) (hb : b < 18446744073709551616) (w : World) : Calls Try.prog 25 #[.float .f64 a, .float .f64 b] w fun e w' => e = .returned (.bool (lessB a b)) ∧ w = w' := by
  have hka := kindB_zero a
  have hkb := kindB_zero b
  have hr := rank_place a b ha hb
  have e1 : lessB a b = if isNan a then isNan b && decide (a < b) else isNan b || decide (rankB a < rankB b) := by
    unfold lessB; rw [show decide (placeB a < placeB b) = decide (rankB a < rankB b) from by simp [hr]]
  have E1 := Lib.hid e1
  clear hr e1
  cases hna : isNan a <;> cases hnb : isNan b
  all_goals
    rw [hna] at hka; rw [hnb] at hkb
    rw [hna, hnb] at E1
    go_enter Try.func25, Try.ntmps25
    go_wp2_with (first | (go_at_call 18; refine (kind18 _ (by assumption) _).mono ?_; rintro e w' ⟨rfl, rfl⟩) | (go_at_call 48; refine (rank48 _ (by assumption) _).mono ?_; rintro e w' ⟨rfl, rfl⟩) | (go_at_call 17; refine (bits17 _ _).mono ?_; rintro e w' ⟨rfl, rfl⟩))
    go_ret
    exact ⟨ret_bool (by rw [E1.out]; simp), rfl⟩

theorem less49 (a b : Nat) (ha : a < 18446744073709551616) (hb : b < 18446744073709551616) (w : World) : Calls Try.prog 49 #[.float .f64 a, .float .f64 b] w fun e w' => e = .returned (.bool (lessB a b)) ∧ w = w' := by
  have h := run45
  have e1 : lessB a b = if isNan a then isNan b && decide (a < b) else isNan b || decide (placeB a < placeB b) := rfl
  have E1 := Lib.hid e1
  clear e1
  cases hna : isNan a <;> cases hnb : isNan b
  all_goals
    rw [hna, hnb] at E1
    go_enter Try.func49, Try.ntmps49
    go_wp2_with (first | (go_at_call 52; refine (nan52 _ (by assumption) _).mono ?_; rintro e w' ⟨rfl, rfl⟩) | (go_at_call 58; refine (place58 _ (by assumption) _).mono ?_; rintro e w' ⟨rfl, rfl⟩))
    go_ret
    exact ⟨ret_bool (by rw [E1.out]; simp), rfl⟩

theorem less27 (a b : Nat) (ha : a < 18446744073709551616) (hb : b < 18446744073709551616) (w : World) : Calls Try.prog 27 #[.float .f64 a, .float .f64 b] w fun e w' => e = .returned (.bool (lessB a b)) ∧ w = w' := by
  go_enter Try.func27, Try.ntmps27
  go_wp2_with (go_at_call 49; refine (less49 _ _ ha hb _).mono ?_; rintro e w' ⟨rfl, rfl⟩)
  go_ret
  exact ⟨rfl, rfl⟩

theorem same26 (a b : Nat) (w : World) : Calls Try.prog 26 #[.float .f64 a, .float .f64 b] w fun e w' => e = .returned (.bool (sameB a b)) ∧ w = w' := by
  go_enter Try.func26, Try.ntmps26
  go_wp2_with (go_at_call 17; refine (bits17 _ _).mono ?_; rintro e w' ⟨rfl, rfl⟩)
  go_ret
  exact ⟨ret_bool (beqNat a b), rfl⟩

theorem same50 (a b : Nat) (w : World) : Calls Try.prog 50 #[.float .f64 a, .float .f64 b] w fun e w' => e = .returned (.bool (sameB a b)) ∧ w = w' := by
  have h := run45
  go_enter Try.func50, Try.ntmps50
  go_wp2
  go_ret
  exact ⟨ret_bool (beqNat a b), rfl⟩

theorem same28 (a b : Nat) (w : World) : Calls Try.prog 28 #[.float .f64 a, .float .f64 b] w fun e w' => e = .returned (.bool (sameB a b)) ∧ w = w' := by
  go_enter Try.func28, Try.ntmps28
  go_wp2_with (go_at_call 50; refine (same50 _ _ _).mono ?_; rintro e w' ⟨rfl, rfl⟩)
  go_ret
  exact ⟨rfl, rfl⟩

theorem sameV21 (a b : Nat) (w : World) : Calls Try.prog 21 #[.float .f64 a, .float .f64 b] w fun e w' => e = .returned (.bool (sameB a b)) ∧ w = w' := by
  go_enter Try.func21, Try.ntmps21
  go_wp2_with (go_at_call 20; refine (bits20 _ _).mono ?_; rintro e w' ⟨rfl, rfl⟩)
  go_ret
  exact ⟨ret_bool (beqNat a b), rfl⟩

theorem stale30 (a : Nat) (w : World) : Calls Try.prog 30 #[.float .f64 a] w fun e w' => e = .returned (.bool (staleB a)) ∧ w = w' := by
  go_enter Try.func30, Try.ntmps30
  go_wp2_with (go_at_call 17; refine (bits17 _ _).mono ?_; rintro e w' ⟨rfl, rfl⟩)
  go_ret
  exact ⟨ret_bool (beqStale a), rfl⟩

theorem stale31 (a : Nat) (w : World) : Calls Try.prog 31 #[.float .f64 a] w fun e w' => e = .returned (.bool (staleB a)) ∧ w = w' := by
  have h := run45
  go_enter Try.func31, Try.ntmps31
  go_wp2
  go_ret
  exact ⟨ret_bool (beqStale a), rfl⟩

theorem mark32 (w : World) : Calls Try.prog 32 #[] w fun e w' => e = .returned (.float .f64 9218868437227405314) ∧ w = w' := by
  go_enter Try.func32, Try.ntmps32
  go_wp2_with (go_at_call 22; refine (from22 _ _).mono ?_; rintro e w' ⟨rfl, rfl⟩)
  go_ret
  exact ⟨rfl, rfl⟩

theorem mark33 (w : World) : Calls Try.prog 33 #[] w fun e w' => e = .returned (.float .f64 9218868437227405314) ∧ w = w' := by
  have h := run46
  go_enter Try.func33, Try.ntmps33
  go_wp2
  go_ret
  exact ⟨rfl, rfl⟩
end Go.Proofs.Ytkpfjjkblfjodaa
