/- Contracts of ReadValue in the model, over the door's translation: it reads just the texts of sixteen digits 0 to f. -/
import Derived.Test.YtkpfjjkblfjodaaDoorHexm
import Derived.Test.YtkpfjjkblfjodaaDoorErr
namespace Go.Proofs.YtkpfjjkblfjodaaDoor
open Go.RowKit Go.Deep

theorem pow60 {k : Nat} (h : k ≤ 15) : (16 : Nat) ^ k ≤ 1152921504606846976 := by
  have : (16 : Nat) ^ 15 = 1152921504606846976 := by decide
  rw [← this]
  exact Nat.pow_le_pow_right (by decide) h

theorem rv7_size (s : ByteArray) (w : World) (h : s.size ≠ 16) : Calls Tryd.prog 7 #[.string s] w fun e w' => e = .returned (.tuple #[.float .f64 0, .bool false]) ∧ w = w' := by
  have h1 : ((s.size : Int) != 16) = true := by simp; omega
  go_enter Tryd.func7, Tryd.ntmps7
  go_wp2
  go_ret2
  exact ⟨rfl, rfl⟩

def valOf (s : ByteArray) : Nat := if validL s.data.toList then valL s.data.toList else 0

theorem ret_rv {x x' : Nat} {b b' : Bool} (h1 : x = x') (h2 : b = b') : Ending.returned (.tuple #[.float .f64 x, .bool b]) = .returned (.tuple #[.float .f64 x', .bool b']) := by rw [h1, h2]

/-- One letter more. -/
theorem read_next {s : ByteArray} {k v c d : Nat} (hk : k < s.data.toList.length) (hc : (s.data.toList[k]).toNat = c) (hd : hexv c = some d) (h : v = valL (s.data.toList.take k) ∧ validL (s.data.toList.take k) = true) :
    v * 16 + d = valL (s.data.toList.take (k + 1)) ∧ validL (s.data.toList.take (k + 1)) = true := by
  rw [take_next _ hk, valL_snoc, validL_snoc, hc, hd, ← h.1, h.2]
  exact ⟨rfl, rfl⟩

theorem read_stop {s : ByteArray} {k c : Nat} (hk : k < s.data.toList.length) (hc : (s.data.toList[k]).toNat = c) (hd : hexv c = none) : validL s.data.toList = false := by
  cases hv : validL s.data.toList with
  | false => rfl
  | true =>
    obtain ⟨d, h⟩ := valid_at hv hk
    rw [hc, hd] at h; cases h

set_option maxHeartbeats 2000000 in
theorem rv7 (s : ByteArray) (w : World) (h : s.size = 16) : Calls Tryd.prog 7 #[.string s] w fun e w' => e = .returned (.tuple #[.float .f64 (valOf s), .bool (validL s.data.toList)]) ∧ w = w' := by
  have hf := run15
  have hlen : s.data.toList.length = 16 := (Array.length_toList).trans h
  have HL := Lib.hid hlen
  clear hlen
  go_enter Tryd.func7, Tryd.ntmps7
  go_wp2
  go_loop [4, 5] (fun b i => ∃ k v : Nat, k ≤ 16 ∧ i = .int .i64 k ∧ b = .int .u64 v ∧ Hid (v = valL (s.data.toList.take k) ∧ validL (s.data.toList.take k) = true)) (fun _ i => 16 - (intOf i).toNat)
  case atStart => exact ⟨0, 0, by omega, rfl, rfl, Lib.hid ⟨rfl, rfl⟩⟩
  case round =>
    obtain ⟨k, v, hk, rfl, rfl, hV⟩ := hrel
    by_cases hlt : k < 16
    · have hks : k < s.size := by omega
      have hkl : k < s.data.toList.length := by rw [HL.out]; exact hlt
      have hv : v < 1152921504606846976 := by
        have h1 := val_take_lt s.data.toList k
        have h2 := pow60 (k := k) (by omega)
        rw [hV.out.1]; omega
      obtain ⟨c, hc⟩ : ∃ c, (s.data.toList[k]).toNat = c := ⟨_, rfl⟩
      have hc256 : c < 256 := by rw [← hc]; exact (s.data.toList[k]).toNat_lt
      have hget : ∀ h' : k < s.size, (s[k]'h').toNat = c := fun h' => hc
      have HC := Lib.hid hc
      clear hc
      by_cases hA : 48 ≤ c ∧ c ≤ 57
      · obtain ⟨a1, a2⟩ := hA
        have hN := Lib.hid (read_next hkl HC.out (d := c - 48) (by unfold hexv; rw [if_pos ⟨a1, a2⟩]) hV.out)
        go_wp2
        go_round
        case rel => exact ⟨k + 1, v * 16 + (c - 48), by omega, by go_num, by go_num, hN⟩
        case measure => simp [intOf]; omega
      · by_cases hB : 97 ≤ c ∧ c ≤ 102
        · obtain ⟨a1, a2⟩ := hB
          have hN := Lib.hid (read_next hkl HC.out (d := c - 87) (by unfold hexv; rw [if_neg hA, if_pos ⟨a1, a2⟩]) hV.out)
          clear hA
          go_wp2
          go_round
          case rel => exact ⟨k + 1, v * 16 + (c - 87), by omega, by go_num, by go_num, hN⟩
          case measure => simp [intOf]; omega
        · have hN := Lib.hid (read_stop hkl HC.out (by unfold hexv; rw [if_neg hA, if_neg hB]))
          have hV0 : Hid (valOf s = 0) := Lib.hid (by unfold valOf; rw [hN.out]; rfl)
          go_wp2
          all_goals
            go_ret2
            exact ⟨ret_rv hV0.out.symm hN.out.symm, rfl⟩
    · have e : k = 16 := by omega
      subst e
      have hW : validL s.data.toList = true ∧ valOf s = v := by
        have := hV.out
        rw [List.take_of_length_le (by rw [HL.out]; exact Nat.le_refl _)] at this
        exact ⟨this.2, by unfold valOf; rw [this.2]; exact this.1.symm⟩
      have HW := Lib.hid hW
      clear hW
      go_wp2
      go_ret2
      exact ⟨ret_rv HW.out.2.symm HW.out.1.symm, rfl⟩
end Go.Proofs.YtkpfjjkblfjodaaDoor
