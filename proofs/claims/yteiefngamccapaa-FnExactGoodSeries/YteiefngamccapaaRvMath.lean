/- Mathematics of reading a number off its bytes: what the loops of both readers keep, and what they answer. -/
import Derived.Test.YteiefngamccapaaPut
import Derived.Lib.Join
namespace Go.Proofs.Yteiefngamccapaa

open Classical in
/-- The number whose bytes stand at the front. -/
noncomputable def readV (D : List UInt8) : Option Nat := if h : ∃ m, Stands D m then some h.choose else none
theorem readV_some {D : List UInt8} {m : Nat} (h : Stands D m) : readV D = some m := by
  have he : ∃ m, Stands D m := ⟨m, h⟩
  unfold readV
  rw [dif_pos he]
  exact congrArg some (Stands.one he.choose_spec h)
theorem readV_none {D : List UInt8} (h : ∀ m, ¬ Stands D m) : readV D = none := by
  unfold readV
  rw [dif_neg (fun ⟨m, hm⟩ => h m hm)]
theorem readV_is {D : List UInt8} {m : Nat} (h : readV D = some m) : Stands D m := by
  unfold readV at h
  split at h
  · rename_i he
    injection h with h
    rw [← h]
    exact he.choose_spec
  · cases h

theorem or_wrap {a c j : Nat} (ha : a < 2 ^ j) (hj : j ≤ 63) : a ||| (c * 2 ^ j % 18446744073709551616) = (a + c * 2 ^ j) % 18446744073709551616 := by
  have e : (18446744073709551616 : Nat) = 2 ^ (64 - j) * 2 ^ j := by rw [← Nat.pow_add, show 64 - j + j = 64 by omega]
  have hp : 0 < 2 ^ j := Nat.pow_pos (by decide)
  have hq : 0 < 2 ^ (64 - j) := Nat.pow_pos (by decide)
  rw [e, Nat.mul_mod_mul_right, or_parts ha]
  have hc : c % 2 ^ (64 - j) < 2 ^ (64 - j) := Nat.mod_lt _ hq
  have hlt : a + c % 2 ^ (64 - j) * 2 ^ j < 2 ^ (64 - j) * 2 ^ j := by
    have : (c % 2 ^ (64 - j) + 1) * 2 ^ j ≤ 2 ^ (64 - j) * 2 ^ j := Nat.mul_le_mul_right _ hc
    rw [Nat.add_mul, Nat.one_mul] at this
    omega
  have hd : c * 2 ^ j = c % 2 ^ (64 - j) * 2 ^ j + (2 ^ (64 - j) * 2 ^ j) * (c / 2 ^ (64 - j)) := by
    have := Nat.mod_add_div c (2 ^ (64 - j))
    conv => lhs; rw [← this]
    rw [Nat.add_mul, Nat.mul_right_comm]
  rw [hd, ← Nat.add_assoc, Nat.add_mul_mod_self_left, Nat.mod_eq_of_lt hlt]

/-- What the first k bytes tell, in 64 bits. -/
def acc (D : List UInt8) (k : Nat) : Nat := valV (D.take k) % 18446744073709551616
theorem acc_lt (D : List UInt8) (k : Nat) : acc D k < 18446744073709551616 := Nat.mod_lt _ (by decide)
theorem acc_zero (D : List UInt8) : acc D 0 = 0 := rfl
theorem pow_seven (k : Nat) : 128 ^ k = 2 ^ (7 * k) := by rw [Nat.pow_mul]
theorem acc_step {D : List UInt8} {k : Nat} (hk : k < D.length) (h9 : k ≤ 9) : acc D k ||| ((D[k]'hk).toNat % 128 * 2 ^ (7 * k) % 18446744073709551616) = acc D (k + 1) := by
  have hl := valV_lt (D.take k)
  rw [List.length_take, Nat.min_eq_left (by omega), pow_seven] at hl
  have hp : 2 ^ (7 * k) ≤ 2 ^ 63 := Nat.pow_le_pow_right (by decide) (by omega)
  unfold acc
  rw [valV_take hk, pow_seven, Nat.mod_eq_of_lt (Nat.lt_of_lt_of_le hl (Nat.le_trans hp (by decide))), or_wrap hl (by omega)]

/-- All bytes ahead of k are 128 at least. -/
def Highs (D : List UInt8) (k : Nat) : Prop := ∀ i, i < k → ∀ (h' : i < D.length), 128 ≤ (D[i]'h').toNat
theorem highs_step {D : List UInt8} {k : Nat} (h : Highs D k) (hk : k < D.length) (hb : 128 ≤ (D[k]'hk).toNat) : Highs D (k + 1) := by
  intro i hi hl
  by_cases e : i = k
  · subst e; exact hb
  · exact h i (by omega) hl
/-- The loop has ended: nothing stands there. -/
theorem read_ended {D : List UInt8} {k : Nat} (h : Highs D k) (he : k = 10 ∨ k = D.length) : readV D = none := by
  refine readV_none fun m hm => ?_
  obtain ⟨j, hj, h10, _, hs⟩ := stands_end hm
  have := h j (by omega) hj
  omega
/-- The first byte below 128 is at k: what was read either is put as the same bytes, or nothing stands there. -/
theorem read_yes {D : List UInt8} {k : Nat} (hk : k < D.length) (he : putV (acc D (k + 1)) = D.take (k + 1)) : readV D = some (acc D (k + 1)) ∧ (putV (acc D (k + 1))).length = k + 1 := by
  refine ⟨readV_some ⟨acc_lt _ _, D.drop (k + 1), ?_⟩, ?_⟩
  · rw [he, List.take_append_drop]
  · rw [he, List.length_take, Nat.min_eq_left (by omega)]
theorem read_no {D : List UInt8} {k : Nat} (hk : k < D.length) (h : Highs D k) (hs : (D[k]'hk).toNat < 128) (he : putV (acc D (k + 1)) ≠ D.take (k + 1)) : readV D = none := by
  refine readV_none fun m hm => he ?_
  obtain ⟨e1, e2⟩ := stands_at hm.2 hk (fun i hi => h i hi (by omega)) hs
  unfold acc
  rw [← e2, Nat.mod_eq_of_lt hm.1, e1]
theorem bytes_from {s : ByteArray} {a k : Nat} (h : a + k < s.size) : (s.data.toList.drop a)[k]'(by rw [List.length_drop]; show k < s.size - a; omega) = s[a + k]'h := by
  rw [List.getElem_drop]
  rfl
theorem extract_take (s : ByteArray) (a k : Nat) : (s.extract a (a + k)).data.toList = (s.data.toList.drop a).take k := by
  rw [ByteArray.data_extract, Array.toList_extract, List.extract_eq_take_drop]
  congr 1
  omega
theorem txt_eq {s : ByteArray} {a k n : Nat} : ((txtV n).toList == (s.extract a (a + k)).toList) = decide (putV n = (s.data.toList.drop a).take k) := by
  rw [Lib.toList_data, Lib.toList_data, extract_take]
  unfold txtV
  rw [Bool.eq_iff_iff]
  simp
end Go.Proofs.Yteiefngamccapaa
