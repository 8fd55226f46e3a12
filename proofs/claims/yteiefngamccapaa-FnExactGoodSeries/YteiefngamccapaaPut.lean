/- Contracts of a number's bytes, in the program and in the model, over this seat's translation: both sides answer putV; only new memory is written. -/
import Derived.Test.YteiefngamccapaaOwn
namespace Go.Proofs.Yteiefngamccapaa
open Go.RowKit Go.Deep

def txtV (n : Nat) : ByteArray := ⟨(putV n).toArray⟩
theorem txtV_size (n : Nat) : (txtV n).size = (putV n).length := by simp [txtV, ByteArray.size]

/-- What the loop keeps: the bytes written, the number left. -/
def PutInv (w : World) (n : Nat) (v : Value) (m : Nat) (wr : World) : Prop :=
  ∃ pre : List UInt8, putV n = pre ++ putV m ∧ wr.ownsRow w.heap.size 5 1 v pre.length (pre.map byteV) ∧ Below w.heap.size w wr
theorem put_len {n m : Nat} {pre : List UInt8} (hn : n < 18446744073709551616) (h : putV n = pre ++ putV m) : pre.length + 1 ≤ 10 := by
  have h1 := putV_ten hn
  have h2 := congrArg List.length h
  have h3 := putV_pos m
  rw [List.length_append] at h2
  omega
theorem put_step {w wr w1 : World} {n m : Nat} {v v' : Value} {pre : List UInt8} {o : Obj} {x : Int} (hm : ¬ m < 128) (hx : x = ((m % 128 + 128 : Nat) : Int)) (he : putV n = pre ++ putV m) (ho : wr.ownsRow w.heap.size 5 1 v pre.length (pre.map byteV)) (hb : Below w.heap.size w wr)
    (ho' : w1.ownsRow w.heap.size 5 1 v' (pre.length + 1) (pre.map byteV ++ [.int .u8 x])) (hg : (wr.alloc o).grownBy w1 v.ownBlock) : PutInv w n v' (m / 128) w1 := by
  refine ⟨pre ++ [UInt8.ofNat (m % 128 + 128)], by rw [he, putV_more hm]; simp, ?_, own_grown (hb.alloc hb.size o) (ho.alloc o) hg (Nat.le_refl _)⟩
  rw [hx] at ho'
  have e : byteV (UInt8.ofNat (m % 128 + 128)) = .int .u8 ((m % 128 + 128 : Nat) : Int) := by unfold byteV; rw [byte_of (by omega)]
  rw [List.length_append, List.map_append]
  simp only [List.map_cons, List.map_nil, e, List.length_cons, List.length_nil]
  exact ho'
theorem put_last {w wr w1 : World} {n m : Nat} {v v' : Value} {pre : List UInt8} {o : Obj} {x : Int} (hm : m < 128) (hx : x = (m : Int)) (he : putV n = pre ++ putV m) (ho : wr.ownsRow w.heap.size 5 1 v pre.length (pre.map byteV)) (hb : Below w.heap.size w wr)
    (ho' : w1.ownsRow w.heap.size 5 1 v' (pre.length + 1) (pre.map byteV ++ [.int .u8 x])) (hg : (wr.alloc o).grownBy w1 v.ownBlock) : (∃ a c, v' = .slice (some a) (pre.length + 1) c ∧ (convert 117 9 v').run Try.prog w1 = .ok (.string (txtV n)) w1) ∧ Below w.heap.size w w1 := by
  refine ⟨?_, own_grown (hb.alloc hb.size o) (ho.alloc o) hg (Nat.le_refl _)⟩
  have e : byteV (UInt8.ofNat m) = .int .u8 (m : Int) := by unfold byteV; rw [byte_of (by omega)]
  have e2 : putV n = pre ++ [UInt8.ofNat m] := by rw [he, putV_small hm]
  rw [hx] at ho'
  have h := own_text (w := w1) (base := w.heap.size) (v := v') (l := putV n) (by rw [e2]; simpa [e] using ho') (putV_pos n)
  rw [e2] at h
  unfold txtV
  rw [e2]
  simpa using h

theorem wrap_div {m : Nat} (h : m < 18446744073709551616) : IntKind.u64.wrap ((m : Int) / 128) = ((m / 128 : Nat) : Int) := by rw [IntKind.wrap_u64]; omega
theorem bits_or_u8_nat (a b : Nat) (ha : a < 256) (hb : b < 256) : bits .or .u8 (a : Int) (b : Int) = ((a ||| b : Nat) : Int) := by
  have hx : a ||| b < 2 ^ 8 := Nat.or_lt_two_pow (by omega) (by omega)
  have h1 : (BitVec.ofInt 8 (a : Int)).toNat = a := by
    rw [BitVec.ofInt_natCast, BitVec.toNat_ofNat]; exact Nat.mod_eq_of_lt (by omega)
  have h2 : (BitVec.ofInt 8 (b : Int)).toNat = b := by
    rw [BitVec.ofInt_natCast, BitVec.toNat_ofNat]; exact Nat.mod_eq_of_lt (by omega)
  show IntKind.u8.wrap ((BitVec.ofInt 8 (a : Int) ||| BitVec.ofInt 8 (b : Int)).toNat : Int) = _
  rw [BitVec.toNat_or, h1, h2, IntKind.wrap_u8]
  omega
set_option maxRecDepth 100000 in
theorem or_high : ∀ a, a < 256 → a ||| 128 = a % 128 + 128 := by decide
theorem or_byte (m : Nat) : bits .or .u8 ((m : Int) % 256) 128 = ((m % 128 + 128 : Nat) : Int) := by
  have h := bits_or_u8_nat (m % 256) 128 (by omega) (by decide)
  rw [or_high _ (by omega), Nat.mod_mod_of_dvd _ (by decide)] at h
  exact h

set_option maxHeartbeats 2000000 in
set_option maxRecDepth 100000 in
theorem put39 (n : Nat) (hn : n < 18446744073709551616) (w : World) : Calls Try.prog 103 #[.int .u64 n] w fun e w' => e = .returned (.string (txtV n)) ∧ Below w.heap.size w w' := by
  obtain ⟨i0, hi, hz0, hz1, hz2⟩ := info_parts Try.info5
  go_enter Try.func103, Try.ntmps103
  go_wp2
  go_loopw [0, 3] (fun q v wr => ∃ m : Nat, m < 18446744073709551616 ∧ q = .int .u64 m ∧ Hid (PutInv w n v m wr)) (fun q _ _ => (intOf q).toNat)
  case atStart => exact ⟨n, hn, rfl, Lib.hid ⟨[], rfl, World.ownsRow_nil _ _ _ _, Below.refl _ _⟩⟩
  case round =>
    obtain ⟨m, hm, rfl, hI⟩ := hrel
    obtain ⟨pre, he, ho, hb⟩ := hI.out
    have hpl := put_len hn he
    have HE := Lib.hid he; have HO := Lib.hid ho; have HB := Lib.hid hb
    have HM := Lib.hid hm
    clear he ho hb hI hm hn
    by_cases hlt : m < 128
    · go_wp2_with (at_builtin; refine wpList_append_own _ rfl _ _ 117 rfl w.heap.size 5 i0 (.int .u8 0) 1 1 Try.underlying117 hi hz0 hz1 hz2 rfl (by decide) _ _ _ rfl (HO.out.alloc _) ⟨wr.heap.size, 0, none⟩ 1 1 [.int .u8 m] rfl rfl new_cell ?c2 ?c3 ?c4 ?c5 ?_)
      case c2 => intro u hu; simp at hu; subst hu; rfl
      case c3 => unfold maxLen; omega
      case c4 => omega
      case c5 => have h1 := HB.out.size; simp; omega
      intro v' w3 hown' hgrow _
      obtain ⟨⟨a, c, rfl, hcv⟩, hb3⟩ := put_last hlt rfl HE.out HO.out HB.out hown' hgrow
      have HB3 := Lib.hid hb3
      clear hown' hgrow hb3
      go_wp2
      go_ret
      exact ⟨rfl, HB3.out⟩
    · have hwq := wrap_div HM.out
      go_wp2_with (at_builtin; refine wpList_append_own _ rfl _ _ 117 rfl w.heap.size 5 i0 (.int .u8 0) 1 1 Try.underlying117 hi hz0 hz1 hz2 rfl (by decide) _ _ _ rfl (HO.out.alloc _) ⟨wr.heap.size, 0, none⟩ 1 1 [.int .u8 (m % 128 + 128 : Nat)] rfl rfl new_cell ?c2 ?c3 ?c4 ?c5 ?_)
      case c2 => intro u hu; simp at hu; subst hu; rfl
      case c3 => unfold maxLen; omega
      case c4 => omega
      case c5 => have h1 := HB.out.size; simp; omega
      intro v' w3 hown' hgrow _
      have HR := Lib.hid (put_step hlt rfl HE.out HO.out HB.out hown' hgrow)
      clear hown' hgrow
      go_wp2
      go_roundw
      case rel => exact ⟨m / 128, by have := HM.out; omega, by go_num, HR⟩
      case measure => simp [intOf]; omega
set_option maxHeartbeats 2000000 in
set_option maxRecDepth 100000 in
theorem put14 (n : Nat) (hn : n < 18446744073709551616) (w : World) : Calls Try.prog 108 #[.int .u64 n] w fun e w' => e = .returned (.string (txtV n)) ∧ Below w.heap.size w w' := by
  obtain ⟨i0, hi, hz0, hz1, hz2⟩ := info_parts Try.info5
  go_enter Try.func108, Try.ntmps108
  go_wp2
  go_loopw [0, 3] (fun q v wr => ∃ m : Nat, m < 18446744073709551616 ∧ q = .int .u64 m ∧ Hid (PutInv w n v m wr)) (fun q _ _ => (intOf q).toNat)
  case atStart => exact ⟨n, hn, rfl, Lib.hid ⟨[], rfl, World.ownsRow_nil _ _ _ _, Below.refl _ _⟩⟩
  case round =>
    obtain ⟨m, hm, rfl, hI⟩ := hrel
    obtain ⟨pre, he, ho, hb⟩ := hI.out
    have hpl := put_len hn he
    have HE := Lib.hid he; have HO := Lib.hid ho; have HB := Lib.hid hb
    have HM := Lib.hid hm
    clear he ho hb hI hm hn
    by_cases hlt : m < 128
    · go_wp2_with (at_builtin; refine wpList_append_own _ rfl _ _ 117 rfl w.heap.size 5 i0 (.int .u8 0) 1 1 Try.underlying117 hi hz0 hz1 hz2 rfl (by decide) _ _ _ rfl (HO.out.alloc _) ⟨wr.heap.size, 0, none⟩ 1 1 [.int .u8 m] rfl rfl new_cell ?c2 ?c3 ?c4 ?c5 ?_)
      case c2 => intro u hu; simp at hu; subst hu; rfl
      case c3 => unfold maxLen; omega
      case c4 => omega
      case c5 => have h1 := HB.out.size; simp; omega
      intro v' w3 hown' hgrow _
      obtain ⟨⟨a, c, rfl, hcv⟩, hb3⟩ := put_last hlt rfl HE.out HO.out HB.out hown' hgrow
      have HB3 := Lib.hid hb3
      clear hown' hgrow hb3
      go_wp2
      go_ret
      exact ⟨rfl, HB3.out⟩
    · have hor := or_byte m
      go_wp2_with (at_builtin; refine wpList_append_own _ rfl _ _ 117 rfl w.heap.size 5 i0 (.int .u8 0) 1 1 Try.underlying117 hi hz0 hz1 hz2 rfl (by decide) _ _ _ rfl (HO.out.alloc _) ⟨wr.heap.size, 0, none⟩ 1 1 [.int .u8 (m % 128 + 128 : Nat)] rfl rfl new_cell ?c2 ?c3 ?c4 ?c5 ?_)
      case c2 => intro u hu; simp at hu; subst hu; rfl
      case c3 => unfold maxLen; omega
      case c4 => omega
      case c5 => have h1 := HB.out.size; simp; omega
      intro v' w3 hown' hgrow _
      have HR := Lib.hid (put_step hlt rfl HE.out HO.out HB.out hown' hgrow)
      clear hown' hgrow
      go_wp2
      go_roundw
      case rel => exact ⟨m / 128, by have := HM.out; omega, by go_num, HR⟩
      case measure => simp [intOf]; omega
end Go.Proofs.Yteiefngamccapaa
