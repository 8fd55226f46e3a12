/- Contracts of a name and of a word in the model, over this seat's translation: nameB and wordB. -/
import Derived.Test.YtpbcgfgjdimpmaaDoorWords
namespace Go.Proofs.YtpbcgfgjdimpmaaDoor
open Go.RowKit Go.Deep

set_option maxHeartbeats 1000000 in
theorem name73 (s : ByteArray) (hs : s.size ≤ 9223372036854775807) (w : World) : Calls Tryd.prog 104 #[.string s] w fun e w' => e = .returned (.bool (nameB s)) ∧ w = w' := by
  by_cases h12 : 0 < s.size ∧ s.size ≤ 12
  case neg =>
    have HN := Lib.hid (nameB_no (s := s) (by omega))
    have hd : (decide ((1 : Int) ≤ (s.size : Int)) && decide ((s.size : Int) ≤ 12)) = false := by simp; omega
    have HD := Lib.hid hd
    clear hd
    go_enter Tryd.func104, Tryd.ntmps104
    go_wp2_with fail
    refine (in79 _ _ _ _).mono ?_
    rw [HD.out]
    rintro e w1 ⟨rfl, rfl⟩
    go_wp2
    go_ret
    exact ⟨ret_bool HN.out.symm, rfl⟩
  obtain ⟨h1, h2⟩ := h12
  have hd : (decide ((1 : Int) ≤ (s.size : Int)) && decide ((s.size : Int) ≤ 12)) = true := by simp; omega
  have HD := Lib.hid hd
  clear hd
  by_cases h3 : isDig (s[0]'h1).toNat = true
  case pos =>
    have HN := Lib.hid (nameB_no (s := s) (.inr (.inr ⟨h1, h3⟩)))
    have g1 : 48 ≤ (s[0]'h1).toNat := by simp [isDig] at h3; omega
    have g2 : (s[0]'h1).toNat ≤ 57 := by simp [isDig] at h3; omega
    clear h3
    go_enter Tryd.func104, Tryd.ntmps104
    go_wp2_with fail
    refine (in79 _ _ _ _).mono ?_
    rw [HD.out]
    rintro e w1 ⟨rfl, rfl⟩
    go_wp2
    go_ret
    exact ⟨ret_bool HN.out.symm, rfl⟩
  have h3 : isDig (s[0]'h1).toNat = false := by simpa using h3
  have HN := Lib.hid (nameB_ok h1 h2 h3)
  have g : (s[0]'h1).toNat < 48 ∨ (48 ≤ (s[0]'h1).toNat ∧ 57 < (s[0]'h1).toNat) := by simp [isDig] at h3; omega
  clear h3
  rcases g with g | ⟨g, g'⟩
  all_goals
    go_enter Tryd.func104, Tryd.ntmps104
    go_wp2_with fail
    refine (in79 _ _ _ _).mono ?_
    rw [HD.out]
    rintro e w1 ⟨rfl, rfl⟩
    go_wp2_with fail
    go_loop [3] (fun i => ∃ k : Nat, k ≤ s.size ∧ i = .int .i64 k ∧ Hid (upTo inName s k)) (fun i => s.size - (intOf i).toNat)
    case atStart => exact ⟨0, Nat.zero_le _, rfl, upTo_zero _ _⟩
    case round =>
      obtain ⟨k, hk, rfl, hU⟩ := hrel
      by_cases hlt : k < s.size
      · have hcase : (97 ≤ (s[k]'hlt).toNat ∧ (s[k]'hlt).toNat ≤ 122) ∨ (48 ≤ (s[k]'hlt).toNat ∧ (s[k]'hlt).toNat ≤ 57) ∨ (s[k]'hlt).toNat = 95 ∨ (s[k]'hlt).toNat < 48 ∨ (57 < (s[k]'hlt).toNat ∧ (s[k]'hlt).toNat < 95) ∨ (95 < (s[k]'hlt).toNat ∧ (s[k]'hlt).toNat < 97) ∨ 122 < (s[k]'hlt).toNat := by omega
        by_cases hin : inName (s[k]'hlt).toNat = true
        · have HU := Lib.hid (upTo_succ hU.out hlt hin)
          have hc2 : (97 ≤ (s[k]'hlt).toNat ∧ (s[k]'hlt).toNat ≤ 122) ∨ (48 ≤ (s[k]'hlt).toNat ∧ (s[k]'hlt).toNat ≤ 57) ∨ (s[k]'hlt).toNat = 95 := by simp [inName] at hin; omega
          clear hin hcase
          rcases hc2 with ⟨a, b⟩ | ⟨a, b⟩ | a
          · go_wp2
            go_round
            case rel => exact ⟨k + 1, by omega, by go_num, HU⟩
            case measure => simp [intOf]; omega
          · go_wp2
            go_round
            case rel => exact ⟨k + 1, by omega, by go_num, HU⟩
            case measure => simp [intOf]; omega
          · have e1 : (((s[k]'hlt).toNat : Int) != 95) = false := by simp; omega
            have a1 : 57 < (s[k]'hlt).toNat := by omega
            have a2 : (s[k]'hlt).toNat < 97 := by omega
            clear a
            go_wp2
            go_round
            case rel => exact ⟨k + 1, by omega, by go_num, HU⟩
            case measure => simp [intOf]; omega
        · have hin : inName (s[k]'hlt).toNat = false := by simpa using hin
          have HI := Lib.hid hin
          have hc2 : (s[k]'hlt).toNat < 48 ∨ (57 < (s[k]'hlt).toNat ∧ (s[k]'hlt).toNat < 97) ∨ 122 < (s[k]'hlt).toNat := by simp [inName] at hin; omega
          have e1 : (((s[k]'hlt).toNat : Int) != 95) = true := by
            rw [bne_iff_ne]; intro h; simp [inName] at hin; omega
          clear hin hcase
          rcases hc2 with a | ⟨a, b⟩ | a
          all_goals
            go_wp2
            go_ret
            exact ⟨ret_bool (by rw [HN.out, allB_not hlt HI.out]), rfl⟩
      · obtain rfl : k = s.size := by omega
        go_wp2
        go_ret
        exact ⟨ret_bool (by rw [HN.out, allB_of hU.out]), rfl⟩

set_option maxHeartbeats 1000000 in
theorem word91 (s : ByteArray) (hs : s.size ≤ 9223372036854775807) (w : World) : Calls Tryd.prog 91 #[.string s] w fun e w' => e = .returned (.bool (wordB s)) ∧ w = w' := by
  go_enter Tryd.func91, Tryd.ntmps91
  go_wp2_with fail
  go_loop [3] (fun i => ∃ k : Nat, k ≤ s.size ∧ i = .int .i64 k ∧ Hid (upTo inWord s k)) (fun i => s.size - (intOf i).toNat)
  case atStart => exact ⟨0, Nat.zero_le _, rfl, upTo_zero _ _⟩
  case round =>
    obtain ⟨k, hk, rfl, hU⟩ := hrel
    by_cases hlt : k < s.size
    · by_cases hin : inWord (s[k]'hlt).toNat = true
      · have HU := Lib.hid (upTo_succ hU.out hlt hin)
        simp [inWord] at hin
        have a1 : 33 ≤ (s[k]'hlt).toNat := by omega
        have a2 : (s[k]'hlt).toNat ≤ 126 := by omega
        have e1 : (((s[k]'hlt).toNat : Int) == 34) = false := beq_eq_false_iff_ne.2 (by omega)
        have e2 : (((s[k]'hlt).toNat : Int) == 44) = false := beq_eq_false_iff_ne.2 (by omega)
        have e3 : (((s[k]'hlt).toNat : Int) == 123) = false := beq_eq_false_iff_ne.2 (by omega)
        have e4 : (((s[k]'hlt).toNat : Int) == 125) = false := beq_eq_false_iff_ne.2 (by omega)
        clear hin
        go_wp2
        go_round
        case rel => exact ⟨k + 1, by omega, by go_num, HU⟩
        case measure => simp [intOf]; omega
      · have hin : inWord (s[k]'hlt).toNat = false := by simpa using hin
        have HW : Hid (wordB s = false) := by unfold wordB; rw [allB_not hlt hin]; exact Bool.and_false _
        have hc : (s[k]'hlt).toNat < 33 ∨ (33 ≤ (s[k]'hlt).toNat ∧ 126 < (s[k]'hlt).toNat) ∨ (33 ≤ (s[k]'hlt).toNat ∧ (s[k]'hlt).toNat ≤ 126 ∧ ((s[k]'hlt).toNat = 34 ∨ (s[k]'hlt).toNat = 44 ∨ (s[k]'hlt).toNat = 123 ∨ (s[k]'hlt).toNat = 125)) := by simp [inWord] at hin; omega
        clear hin
        rcases hc with a | ⟨a, b⟩ | ⟨a, b, c⟩
        · go_wp2
          go_ret
          exact ⟨ret_bool HW.out.symm, rfl⟩
        · go_wp2
          go_ret
          exact ⟨ret_bool HW.out.symm, rfl⟩
        · rcases c with c | c | c | c
          · have e0 : (((s[k]'hlt).toNat : Int) == 34) = true := beq_iff_eq.2 (by omega)
            clear c
            go_wp2
            go_ret
            exact ⟨ret_bool HW.out.symm, rfl⟩
          · have e0 : (((s[k]'hlt).toNat : Int) == 34) = false := beq_eq_false_iff_ne.2 (by omega)
            have e1 : (((s[k]'hlt).toNat : Int) == 44) = true := beq_iff_eq.2 (by omega)
            clear c
            go_wp2
            go_ret
            exact ⟨ret_bool HW.out.symm, rfl⟩
          · have e0 : (((s[k]'hlt).toNat : Int) == 34) = false := beq_eq_false_iff_ne.2 (by omega)
            have e1 : (((s[k]'hlt).toNat : Int) == 44) = false := beq_eq_false_iff_ne.2 (by omega)
            have e2 : (((s[k]'hlt).toNat : Int) == 123) = true := beq_iff_eq.2 (by omega)
            clear c
            go_wp2
            go_ret
            exact ⟨ret_bool HW.out.symm, rfl⟩
          · have e0 : (((s[k]'hlt).toNat : Int) == 34) = false := beq_eq_false_iff_ne.2 (by omega)
            have e1 : (((s[k]'hlt).toNat : Int) == 44) = false := beq_eq_false_iff_ne.2 (by omega)
            have e2 : (((s[k]'hlt).toNat : Int) == 123) = false := beq_eq_false_iff_ne.2 (by omega)
            have e3 : (((s[k]'hlt).toNat : Int) == 125) = true := beq_iff_eq.2 (by omega)
            clear c
            go_wp2
            go_ret
            exact ⟨ret_bool HW.out.symm, rfl⟩
    · obtain rfl : k = s.size := by omega
      have HW : Hid (wordB s = decide (s.size ≤ 12)) := by unfold wordB; rw [allB_of hU.out]; exact Bool.and_true _
      go_wp2
      go_ret
      exact ⟨ret_bool (by rw [HW.out, Bool.eq_iff_iff]; simp; omega), rfl⟩
end Go.Proofs.YtpbcgfgjdimpmaaDoor
