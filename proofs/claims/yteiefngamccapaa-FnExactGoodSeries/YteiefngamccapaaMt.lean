/- Contract of the exact laws' markText, over this seat's translation. -/
import Derived.Test.YteiefngamccapaaPut
import Derived.Deep.RegionHeld3
namespace Go.Proofs.Yteiefngamccapaa
open Go.RowKit Go.Deep

def digit (n : Nat) : UInt8 := UInt8.ofNat (48 + n % 10)
def digs (k : Nat) (acc : List UInt8) : List UInt8 := if h : k = 0 then acc else digs (k / 10) (digit k :: acc)
termination_by k
decreasing_by omega
/-- The mark of a number. -/
def mk (k : Nat) : ByteArray := if k = 0 then ⟨#[109, 48]⟩ else ⟨(109 :: digs k []).toArray⟩

theorem digs_step {k : Nat} (h : 0 < k) (acc : List UInt8) : digs k acc = digs (k / 10) (digit k :: acc) := by
  rw [digs, dif_neg (by omega)]
theorem digs_zero (acc : List UInt8) : digs 0 acc = acc := by rw [digs, dif_pos rfl]

theorem conv_one (w : World) (n : Int) : (convert 117 9 (.slice (some ⟨w.heap.size, 0, none⟩) 1 1)).run Try.prog (w.alloc (.cells #[.int .u8 n] 5)) = .ok (.string ⟨#[UInt8.ofNat n.toNat]⟩) (w.alloc (.cells #[.int .u8 n] 5)) := by
  rw [run_convert_bytes_string _ 117 9 5 _ 1 1 Try.underlying117 Try.underlying5 Try.underlying9, run_bytesToString _ _ 1 1 [n] (by simp [go_sem])]
  rfl
theorem digit_eq (j : Nat) : UInt8.ofNat ((48 : Int) + (j : Int) % 10).toNat = digit j := by
  unfold digit
  congr 1
theorem ret_strm {a b : ByteArray} (h : a = b) : Ending.returned (.string b) = .returned (.string a) := by rw [h]
theorem cons_str (d : UInt8) (acc : List UInt8) : (⟨#[d]⟩ : ByteArray) ++ ⟨acc.toArray⟩ = ⟨(d :: acc).toArray⟩ := by
  rw [ByteArray.mk_append_mk]; simp

set_option maxHeartbeats 1000000 in
set_option maxRecDepth 100000 in
theorem mark86 (k : Nat) (hk : k ≤ 8388608) (w : World) : Calls Try.prog 78 #[.int .i64 k] w fun e w' => e = .returned (.string (mk k)) ∧ Below w.heap.size w w' := by
  by_cases h0 : k = 0
  · subst h0
    go_enter Try.func78, Try.ntmps78
    go_wp2
    go_ret
    exact ⟨rfl, Below.refl _ _⟩
  have hp : 0 < k := by omega
  go_enter Try.func78, Try.ntmps78
  go_wp2
  go_loopw [0, 3] (fun i s wr => ∃ (j : Nat) (acc : List UInt8), j ≤ 8388608 ∧ i = .int .i64 j ∧ s = .string ⟨acc.toArray⟩ ∧ Hid (digs j acc = digs k []) ∧ acc.length + j ≤ 8388608 ∧ Hid (Below w.heap.size w wr)) (fun i _ _ => (intOf i).toNat)
  case atStart => exact ⟨k, [], hk, rfl, rfl, rfl, by simp; omega, Below.refl _ _⟩
  case round =>
    obtain ⟨j, acc, hj, rfl, rfl, hd, hl, hb⟩ := hrel
    by_cases hlt : 0 < j
    · have hcv := conv_one wr ((48 : Int) + (j : Int) % 10)
      have hdg := digit_eq j
      have hcs := cons_str (digit j) acc
      have HD := Lib.hid ((digs_step hlt acc).symm.trans hd.out)
      go_wp2
      go_roundw
      case rel => exact ⟨j / 10, digit j :: acc, by omega, by go_num, rfl, HD, by simp; omega, hb.out.alloc hb.out.size _⟩
      case measure => simp [intOf]; omega
    · obtain rfl : j = 0 := by omega
      have HD := Lib.hid ((digs_zero acc).symm.trans hd.out)
      have hcs := cons_str 109 acc
      go_wp2
      go_ret
      exact ⟨ret_strm (by rw [mk, if_neg h0, HD.out]), hb.out⟩

theorem mark86i (z : Int) (k : Nat) (hz : z = (k : Int)) (hk : k ≤ 8388608) (w : World) : Calls Try.prog 78 #[.int .i64 z] w fun e w' => e = .returned (.string (mk k)) ∧ Below w.heap.size w w' := by
  subst hz; exact mark86 k hk w
end Go.Proofs.Yteiefngamccapaa
