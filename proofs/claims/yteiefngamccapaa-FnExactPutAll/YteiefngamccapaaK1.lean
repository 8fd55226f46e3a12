/- Rows that a call owns, of bytes and of numbers, and what later calls leave of them. Nothing of the program stands here but the numbers of its types. -/
import Derived.Test.YteiefngamccapaaK0
import Derived.Maps.AppendAt
import Derived.Deep.QuietTactic
import Derived.BigQuiet
import Derived.Laws.IdiomStrings
import Derived.Laws.Strings2
import Derived.Lib.Join
namespace Go.Proofs.Yteiefngamccapaa
open Go.RowKit Go.Deep Go.ChangeShapes Go.WideShapes Go.ChangeAt

theorem Try.info5 : (Try.prog.info? 5).map (fun i => (i.zero, i.size, i.bytes)) = some (some (.int .u8 0), 1, 1) := by kernel_rfl
theorem Try.info3 : (Try.prog.info? 3).map (fun i => (i.zero, i.size, i.bytes)) = some (some (.int .i64 0), 1, 8) := by kernel_rfl
theorem info_parts {P : Program} {e : TypeId} {z : Value} {s b : Nat} (h : (P.info? e).map (fun i => (i.zero, i.size, i.bytes)) = some (some z, s, b)) : ∃ i, P.info? e = some i ∧ i.zero = some z ∧ i.size = s ∧ i.bytes = b := by
  cases hi : P.info? e with
  | none => rw [hi] at h; cases h
  | some i => rw [hi] at h; simp at h; exact ⟨i, rfl, h.1, h.2.1, h.2.2⟩
theorem own_slice {w : World} {base : Nat} {e : TypeId} {size n : Nat} {v : Value} {xs : List Value} (h : w.ownsRow base e size v n xs) : ∃ ao c, v = .slice ao n c := by
  rcases h.2 with ⟨rfl, rfl⟩ | ⟨g, cap, cur, rfl, _⟩
  · exact ⟨_, _, rfl⟩
  · exact ⟨_, _, rfl⟩
theorem own_other {w w' : World} {base B : Nat} {e : TypeId} {s : Nat} {v : Value} {n : Nat} {xs : List Value} (h : w.ownsRow base e s v n xs) (hB : B < base) (hg : w.grownBy w' (some B)) : w'.ownsRow base e s v n xs := by
  refine h.kept hg ?_
  cases hv : v.ownBlock with
  | none => exact .inl rfl
  | some k => exact .inr (fun e => by have := (h.lt k hv).1; injection e with e; omega)
theorem gb_below {a b : World} {row : Option Nat} (h : Below a.heap.size a b) : a.grownBy b row := ⟨h.os, h.tape, h.output, h.size, fun i hi _ => h.block i hi⟩
theorem own_below {w w' : World} {base : Nat} {e : TypeId} {size n : Nat} {v : Value} {xs : List Value} (h : w.ownsRow base e size v n xs) (hb : Below w.heap.size w w') : w'.ownsRow base e size v n xs :=
  h.kept (row := none) (gb_below hb) (by cases hv : v.ownBlock <;> simp)
theorem own_grown {w w1 w2 : World} {base : Nat} {e : TypeId} {size n : Nat} {v : Value} {xs : List Value} (hb : Below w.heap.size w w1) (ho : w1.ownsRow base e size v n xs) (hg : w1.grownBy w2 v.ownBlock) (hbase : w.heap.size ≤ base) : Below w.heap.size w w2 :=
  hb.grown hg hb.size (fun k hk => Nat.le_trans hbase (ho.lt k hk).1)
/-- A row of one cell that was made just now. -/
theorem new_cell {w : World} {v : Value} {t : TypeId} : ∀ j u, [v][j]? = some u → (w.alloc (.cells #[v] t)).cell? ((⟨w.heap.size, 0, none⟩ : Addr).add j) = some u := by
  intro j u hj
  match j, hj with
  | 0, hj => simp at hj; subst hj; simp [Addr.add]
def byteV (b : UInt8) : Value := .int .u8 (b.toNat : Int)
theorem ret_str {a b : ByteArray} (h : a = b) : Ending.returned (.string a) = .returned (.string b) := by rw [h]
/-- The bytes of a row of one's own as a text. -/
theorem own_text {w : World} {base : Nat} {v : Value} {l : List UInt8} (h : w.ownsRow base 5 1 v l.length (l.map byteV)) (hp : 0 < l.length) : ∃ a c, v = .slice (some a) l.length c ∧ (convert 117 9 v).run Try.prog w = .ok (.string ⟨l.toArray⟩) w := by
  obtain ⟨_, ⟨rfl, hn⟩ | ⟨g, cap, cur, rfl, hge, hh, hle, _, hsz, htk⟩⟩ := h
  · omega
  · refine ⟨_, cap, rfl, run_convert_bytes_back (P := Try.prog) w 117 9 5 ⟨g, 0, none⟩ cap l Try.underlying117 Try.underlying5 Try.underlying9 fun i hi => ?_⟩
    have e : cur.toList[i]? = some (byteV l[i]) := by
      have h2 : (cur.toList.take (l.length * 1))[i]? = cur.toList[i]? := by rw [List.getElem?_take, if_pos (by omega)]
      rw [← h2, htk]
      simp [hi]
    have e' : cur[i]? = some (byteV l[i]) := by simpa using e
    rw [add_plain, Nat.zero_add]
    simp [World.cell?, hh, e', byteV]
end Go.Proofs.Yteiefngamccapaa
namespace Go.Proofs.Yteiefngamccapaa
open Go.RowKit Go.Deep

def txtV (n : Nat) : ByteArray := ⟨(putV n).toArray⟩
theorem txtV_size (n : Nat) : (txtV n).size = (putV n).length := by simp [txtV, ByteArray.size]

/-- What the loop keeps: the bytes written, the number left. -/
def PutInv (w : World) (n : Nat) (v : Value) (m : Nat) (wr : World) : Prop :=
  ∃ pre : List UInt8, putV n = pre ++ putV m ∧ wr.ownsRow w.heap.size 5 1 v pre.length (pre.map byteV) ∧ Below w.heap.size w wr
theorem put_len {n m : Nat} {pre : List UInt8} (hn : n < 18446744073709551616) (h : putV n = pre ++ putV m) : pre.length + 1 ≤ 10 := by
  have h1 := putV_ten hn
  have h2 := congrArg List.length h
  have h3 := putV_pos m
  rw [List.length_append] at h2
  omega
theorem put_step {w wr w1 : World} {n m : Nat} {v v' : Value} {pre : List UInt8} {o : Obj} {x : Int} (hm : ¬ m < 128) (hx : x = ((m % 128 + 128 : Nat) : Int)) (he : putV n = pre ++ putV m) (ho : wr.ownsRow w.heap.size 5 1 v pre.length (pre.map byteV)) (hb : Below w.heap.size w wr)
    (ho' : w1.ownsRow w.heap.size 5 1 v' (pre.length + 1) (pre.map byteV ++ [.int .u8 x])) (hg : (wr.alloc o).grownBy w1 v.ownBlock) : PutInv w n v' (m / 128) w1 := by
  refine ⟨pre ++ [UInt8.ofNat (m % 128 + 128)], by rw [he, putV_more hm]; simp, ?_, own_grown (hb.alloc hb.size o) (ho.alloc o) hg (Nat.le_refl _)⟩
  rw [hx] at ho'
  have e : byteV (UInt8.ofNat (m % 128 + 128)) = .int .u8 ((m % 128 + 128 : Nat) : Int) := by unfold byteV; rw [byte_of (by omega)]
  rw [List.length_append, List.map_append]
  simp only [List.map_cons, List.map_nil, e, List.length_cons, List.length_nil]
  exact ho'
theorem put_last {w wr w1 : World} {n m : Nat} {v v' : Value} {pre : List UInt8} {o : Obj} {x : Int} (hm : m < 128) (hx : x = (m : Int)) (he : putV n = pre ++ putV m) (ho : wr.ownsRow w.heap.size 5 1 v pre.length (pre.map byteV)) (hb : Below w.heap.size w wr)
    (ho' : w1.ownsRow w.heap.size 5 1 v' (pre.length + 1) (pre.map byteV ++ [.int .u8 x])) (hg : (wr.alloc o).grownBy w1 v.ownBlock) : (∃ a c, v' = .slice (some a) (pre.length + 1) c ∧ (convert 117 9 v').run Try.prog w1 = .ok (.string (txtV n)) w1) ∧ Below w.heap.size w w1 := by
  refine ⟨?_, own_grown (hb.alloc hb.size o) (ho.alloc o) hg (Nat.le_refl _)⟩
  have e : byteV (UInt8.ofNat m) = .int .u8 (m : Int) := by unfold byteV; rw [byte_of (by omega)]
  have e2 : putV n = pre ++ [UInt8.ofNat m] := by rw [he, putV_small hm]
  rw [hx] at ho'
  have h := own_text (w := w1) (base := w.heap.size) (v := v') (l := putV n) (by rw [e2]; simpa [e] using ho') (putV_pos n)
  rw [e2] at h
  unfold txtV
  rw [e2]
  simpa using h

theorem wrap_div {m : Nat} (h : m < 18446744073709551616) : IntKind.u64.wrap ((m : Int) / 128) = ((m / 128 : Nat) : Int) := by rw [IntKind.wrap_u64]; omega
theorem bits_or_u8_nat (a b : Nat) (ha : a < 256) (hb : b < 256) : bits .or .u8 (a : Int) (b : Int) = ((a ||| b : Nat) : Int) := by
  have hx : a ||| b < 2 ^ 8 := Nat.or_lt_two_pow (by omega) (by omega)
  have h1 : (BitVec.ofInt 8 (a : Int)).toNat = a := by
    rw [BitVec.ofInt_natCast, BitVec.toNat_ofNat]; exact Nat.mod_eq_of_lt (by omega)
  have h2 : (BitVec.ofInt 8 (b : Int)).toNat = b := by
    rw [BitVec.ofInt_natCast, BitVec.toNat_ofNat]; exact Nat.mod_eq_of_lt (by omega)
  show IntKind.u8.wrap ((BitVec.ofInt 8 (a : Int) ||| BitVec.ofInt 8 (b : Int)).toNat : Int) = _
  rw [BitVec.toNat_or, h1, h2, IntKind.wrap_u8]
  omega
set_option maxRecDepth 100000 in
theorem or_high : ∀ a, a < 256 → a ||| 128 = a % 128 + 128 := by decide
theorem or_byte (m : Nat) : bits .or .u8 ((m : Int) % 256) 128 = ((m % 128 + 128 : Nat) : Int) := by
  have h := bits_or_u8_nat (m % 256) 128 (by omega) (by decide)
  rw [or_high _ (by omega), Nat.mod_mod_of_dvd _ (by decide)] at h
  exact h

set_option maxHeartbeats 2000000 in
set_option maxRecDepth 100000 in
theorem put39 (n : Nat) (hn : n < 18446744073709551616) (w : World) : Calls Try.prog 103 #[.int .u64 n] w fun e w' => e = .returned (.string (txtV n)) ∧ Below w.heap.size w w' := by
  obtain ⟨i0, hi, hz0, hz1, hz2⟩ := info_parts Try.info5
  go_enter Try.func103, Try.ntmps103
  go_wp2
  go_loopw [0, 3] (fun q v wr => ∃ m : Nat, m < 18446744073709551616 ∧ q = .int .u64 m ∧ Hid (PutInv w n v m wr)) (fun q _ _ => (intOf q).toNat)
  case atStart => exact ⟨n, hn, rfl, Lib.hid ⟨[], rfl, World.ownsRow_nil _ _ _ _, Below.refl _ _⟩⟩
  case round =>
    obtain ⟨m, hm, rfl, hI⟩ := hrel
    obtain ⟨pre, he, ho, hb⟩ := hI.out
    have hpl := put_len hn he
    have HE := Lib.hid he; have HO := Lib.hid ho; have HB := Lib.hid hb
    have HM := Lib.hid hm
    clear he ho hb hI hm hn
    by_cases hlt : m < 128
    · go_wp2_with (at_builtin; refine wpList_append_own _ rfl _ _ 117 rfl w.heap.size 5 i0 (.int .u8 0) 1 1 Try.underlying117 hi hz0 hz1 hz2 rfl (by decide) _ _ _ rfl (HO.out.alloc _) ⟨wr.heap.size, 0, none⟩ 1 1 [.int .u8 m] rfl rfl new_cell ?c2 ?c3 ?c4 ?c5 ?_)
      case c2 => intro u hu; simp at hu; subst hu; rfl
      case c3 => unfold maxLen; omega
      case c4 => omega
      case c5 => have h1 := HB.out.size; simp; omega
      intro v' w3 hown' hgrow _
      obtain ⟨⟨a, c, rfl, hcv⟩, hb3⟩ := put_last hlt rfl HE.out HO.out HB.out hown' hgrow
      have HB3 := Lib.hid hb3
      clear hown' hgrow hb3
      go_wp2
      go_ret
      exact ⟨rfl, HB3.out⟩
    · have hwq := wrap_div HM.out
      go_wp2_with (at_builtin; refine wpList_append_own _ rfl _ _ 117 rfl w.heap.size 5 i0 (.int .u8 0) 1 1 Try.underlying117 hi hz0 hz1 hz2 rfl (by decide) _ _ _ rfl (HO.out.alloc _) ⟨wr.heap.size, 0, none⟩ 1 1 [.int .u8 (m % 128 + 128 : Nat)] rfl rfl new_cell ?c2 ?c3 ?c4 ?c5 ?_)
      case c2 => intro u hu; simp at hu; subst hu; rfl
      case c3 => unfold maxLen; omega
      case c4 => omega
      case c5 => have h1 := HB.out.size; simp; omega
      intro v' w3 hown' hgrow _
      have HR := Lib.hid (put_step hlt rfl HE.out HO.out HB.out hown' hgrow)
      clear hown' hgrow
      go_wp2
      go_roundw
      case rel => exact ⟨m / 128, by have := HM.out; omega, by go_num, HR⟩
      case measure => simp [intOf]; omega
set_option maxHeartbeats 2000000 in
set_option maxRecDepth 100000 in
theorem put14 (n : Nat) (hn : n < 18446744073709551616) (w : World) : Calls Try.prog 108 #[.int .u64 n] w fun e w' => e = .returned (.string (txtV n)) ∧ Below w.heap.size w w' := by
  obtain ⟨i0, hi, hz0, hz1, hz2⟩ := info_parts Try.info5
  go_enter Try.func108, Try.ntmps108
  go_wp2
  go_loopw [0, 3] (fun q v wr => ∃ m : Nat, m < 18446744073709551616 ∧ q = .int .u64 m ∧ Hid (PutInv w n v m wr)) (fun q _ _ => (intOf q).toNat)
  case atStart => exact ⟨n, hn, rfl, Lib.hid ⟨[], rfl, World.ownsRow_nil _ _ _ _, Below.refl _ _⟩⟩
  case round =>
    obtain ⟨m, hm, rfl, hI⟩ := hrel
    obtain ⟨pre, he, ho, hb⟩ := hI.out
    have hpl := put_len hn he
    have HE := Lib.hid he; have HO := Lib.hid ho; have HB := Lib.hid hb
    have HM := Lib.hid hm
    clear he ho hb hI hm hn
    by_cases hlt : m < 128
    · go_wp2_with (at_builtin; refine wpList_append_own _ rfl _ _ 117 rfl w.heap.size 5 i0 (.int .u8 0) 1 1 Try.underlying117 hi hz0 hz1 hz2 rfl (by decide) _ _ _ rfl (HO.out.alloc _) ⟨wr.heap.size, 0, none⟩ 1 1 [.int .u8 m] rfl rfl new_cell ?c2 ?c3 ?c4 ?c5 ?_)
      case c2 => intro u hu; simp at hu; subst hu; rfl
      case c3 => unfold maxLen; omega
      case c4 => omega
      case c5 => have h1 := HB.out.size; simp; omega
      intro v' w3 hown' hgrow _
      obtain ⟨⟨a, c, rfl, hcv⟩, hb3⟩ := put_last hlt rfl HE.out HO.out HB.out hown' hgrow
      have HB3 := Lib.hid hb3
      clear hown' hgrow hb3
      go_wp2
      go_ret
      exact ⟨rfl, HB3.out⟩
    · have hor := or_byte m
      go_wp2_with (at_builtin; refine wpList_append_own _ rfl _ _ 117 rfl w.heap.size 5 i0 (.int .u8 0) 1 1 Try.underlying117 hi hz0 hz1 hz2 rfl (by decide) _ _ _ rfl (HO.out.alloc _) ⟨wr.heap.size, 0, none⟩ 1 1 [.int .u8 (m % 128 + 128 : Nat)] rfl rfl new_cell ?c2 ?c3 ?c4 ?c5 ?_)
      case c2 => intro u hu; simp at hu; subst hu; rfl
      case c3 => unfold maxLen; omega
      case c4 => omega
      case c5 => have h1 := HB.out.size; simp; omega
      intro v' w3 hown' hgrow _
      have HR := Lib.hid (put_step hlt rfl HE.out HO.out HB.out hown' hgrow)
      clear hown' hgrow
      go_wp2
      go_roundw
      case rel => exact ⟨m / 128, by have := HM.out; omega, by go_num, HR⟩
      case measure => simp [intOf]; omega
end Go.Proofs.Yteiefngamccapaa
namespace Go.Proofs.Yteiefngamccapaa

open Classical in
/-- The number whose bytes stand at the front. -/
noncomputable def readV (D : List UInt8) : Option Nat := if h : ∃ m, Stands D m then some h.choose else none
theorem readV_some {D : List UInt8} {m : Nat} (h : Stands D m) : readV D = some m := by
  have he : ∃ m, Stands D m := ⟨m, h⟩
  unfold readV
  rw [dif_pos he]
  exact congrArg some (Stands.one he.choose_spec h)
theorem readV_none {D : List UInt8} (h : ∀ m, ¬ Stands D m) : readV D = none := by
  unfold readV
  rw [dif_neg (fun ⟨m, hm⟩ => h m hm)]
theorem readV_is {D : List UInt8} {m : Nat} (h : readV D = some m) : Stands D m := by
  unfold readV at h
  split at h
  · rename_i he
    injection h with h
    rw [← h]
    exact he.choose_spec
  · cases h

theorem or_wrap {a c j : Nat} (ha : a < 2 ^ j) (hj : j ≤ 63) : a ||| (c * 2 ^ j % 18446744073709551616) = (a + c * 2 ^ j) % 18446744073709551616 := by
  have e : (18446744073709551616 : Nat) = 2 ^ (64 - j) * 2 ^ j := by rw [← Nat.pow_add, show 64 - j + j = 64 by omega]
  have hp : 0 < 2 ^ j := Nat.pow_pos (by decide)
  have hq : 0 < 2 ^ (64 - j) := Nat.pow_pos (by decide)
  rw [e, Nat.mul_mod_mul_right, or_parts ha]
  have hc : c % 2 ^ (64 - j) < 2 ^ (64 - j) := Nat.mod_lt _ hq
  have hlt : a + c % 2 ^ (64 - j) * 2 ^ j < 2 ^ (64 - j) * 2 ^ j := by
    have : (c % 2 ^ (64 - j) + 1) * 2 ^ j ≤ 2 ^ (64 - j) * 2 ^ j := Nat.mul_le_mul_right _ hc
    rw [Nat.add_mul, Nat.one_mul] at this
    omega
  have hd : c * 2 ^ j = c % 2 ^ (64 - j) * 2 ^ j + (2 ^ (64 - j) * 2 ^ j) * (c / 2 ^ (64 - j)) := by
    have := Nat.mod_add_div c (2 ^ (64 - j))
    conv => lhs; rw [← this]
    rw [Nat.add_mul, Nat.mul_right_comm]
  rw [hd, ← Nat.add_assoc, Nat.add_mul_mod_self_left, Nat.mod_eq_of_lt hlt]

/-- What the first k bytes tell, in 64 bits. -/
def acc (D : List UInt8) (k : Nat) : Nat := valV (D.take k) % 18446744073709551616
theorem acc_lt (D : List UInt8) (k : Nat) : acc D k < 18446744073709551616 := Nat.mod_lt _ (by decide)
theorem acc_zero (D : List UInt8) : acc D 0 = 0 := rfl
theorem pow_seven (k : Nat) : 128 ^ k = 2 ^ (7 * k) := by rw [Nat.pow_mul]
theorem acc_step {D : List UInt8} {k : Nat} (hk : k < D.length) (h9 : k ≤ 9) : acc D k ||| ((D[k]'hk).toNat % 128 * 2 ^ (7 * k) % 18446744073709551616) = acc D (k + 1) := by
  have hl := valV_lt (D.take k)
  rw [List.length_take, Nat.min_eq_left (by omega), pow_seven] at hl
  have hp : 2 ^ (7 * k) ≤ 2 ^ 63 := Nat.pow_le_pow_right (by decide) (by omega)
  unfold acc
  rw [valV_take hk, pow_seven, Nat.mod_eq_of_lt (Nat.lt_of_lt_of_le hl (Nat.le_trans hp (by decide))), or_wrap hl (by omega)]

/-- All bytes ahead of k are 128 at least. -/
def Highs (D : List UInt8) (k : Nat) : Prop := ∀ i, i < k → ∀ (h' : i < D.length), 128 ≤ (D[i]'h').toNat
theorem highs_step {D : List UInt8} {k : Nat} (h : Highs D k) (hk : k < D.length) (hb : 128 ≤ (D[k]'hk).toNat) : Highs D (k + 1) := by
  intro i hi hl
  by_cases e : i = k
  · subst e; exact hb
  · exact h i (by omega) hl
/-- The loop has ended: nothing stands there. -/
theorem read_ended {D : List UInt8} {k : Nat} (h : Highs D k) (he : k = 10 ∨ k = D.length) : readV D = none := by
  refine readV_none fun m hm => ?_
  obtain ⟨j, hj, h10, _, hs⟩ := stands_end hm
  have := h j (by omega) hj
  omega
/-- The first byte below 128 is at k: what was read either is put as the same bytes, or nothing stands there. -/
theorem read_yes {D : List UInt8} {k : Nat} (hk : k < D.length) (he : putV (acc D (k + 1)) = D.take (k + 1)) : readV D = some (acc D (k + 1)) ∧ (putV (acc D (k + 1))).length = k + 1 := by
  refine ⟨readV_some ⟨acc_lt _ _, D.drop (k + 1), ?_⟩, ?_⟩
  · rw [he, List.take_append_drop]
  · rw [he, List.length_take, Nat.min_eq_left (by omega)]
theorem read_no {D : List UInt8} {k : Nat} (hk : k < D.length) (h : Highs D k) (hs : (D[k]'hk).toNat < 128) (he : putV (acc D (k + 1)) ≠ D.take (k + 1)) : readV D = none := by
  refine readV_none fun m hm => he ?_
  obtain ⟨e1, e2⟩ := stands_at hm.2 hk (fun i hi => h i hi (by omega)) hs
  unfold acc
  rw [← e2, Nat.mod_eq_of_lt hm.1, e1]
theorem bytes_from {s : ByteArray} {a k : Nat} (h : a + k < s.size) : (s.data.toList.drop a)[k]'(by rw [List.length_drop]; show k < s.size - a; omega) = s[a + k]'h := by
  rw [List.getElem_drop]
  rfl
theorem extract_take (s : ByteArray) (a k : Nat) : (s.extract a (a + k)).data.toList = (s.data.toList.drop a).take k := by
  rw [ByteArray.data_extract, Array.toList_extract, List.extract_eq_take_drop]
  congr 1
  omega
theorem txt_eq {s : ByteArray} {a k n : Nat} : ((txtV n).toList == (s.extract a (a + k)).toList) = decide (putV n = (s.data.toList.drop a).take k) := by
  rw [Lib.toList_data, Lib.toList_data, extract_take]
  unfold txtV
  rw [Bool.eq_iff_iff]
  simp
end Go.Proofs.Yteiefngamccapaa
namespace Go.Proofs.Yteiefngamccapaa

/-- The bytes of numbers, one behind another. -/
def byS (us : List Nat) : List UInt8 := (us.map putV).flatten
theorem byS_nil : byS [] = [] := rfl
theorem byS_cons (u : Nat) (us : List Nat) : byS (u :: us) = putV u ++ byS us := by simp [byS]
theorem byS_append (us vs : List Nat) : byS (us ++ vs) = byS us ++ byS vs := by simp [byS]
theorem byS_one (u : Nat) : byS [u] = putV u := by simp [byS]
theorem byS_front : ∀ {us vs : List Nat} {r r' : List UInt8}, us.length = vs.length → byS us ++ r = byS vs ++ r' → us = vs ∧ r = r'
  | [], [], _, _, _, h => ⟨rfl, h⟩
  | [], _ :: _, _, _, h, _ => by simp at h
  | _ :: _, [], _, _, h, _ => by simp at h
  | u :: us, v :: vs, r, r', hl, h => by
    rw [byS_cons, byS_cons, List.append_assoc, List.append_assoc] at h
    obtain ⟨e1, e2⟩ := put_front h
    obtain ⟨e3, e4⟩ := byS_front (by simpa using hl) e2
    exact ⟨by rw [e1, e3], e4⟩
def Fit64 (us : List Nat) : Prop := ∀ u ∈ us, u < 18446744073709551616
theorem byS_len : ∀ {us : List Nat}, Fit64 us → (byS us).length ≤ 10 * us.length
  | [], _ => by simp [byS]
  | u :: us, h => by
    have h1 := putV_ten (h u (List.mem_cons_self ..))
    have h2 := byS_len (us := us) (fun x hx => h x (List.mem_cons_of_mem _ hx))
    rw [byS_cons, List.length_append, List.length_cons]
    omega
/-- How many they are, and they. -/
def whole (us : List Nat) : List UInt8 := putV us.length ++ byS us
theorem whole_one {us vs : List Nat} (h : whole us = whole vs) : us = vs := by
  unfold whole at h
  obtain ⟨e1, e2⟩ := put_front h
  exact (byS_front (r := []) (r' := []) e1 (by rw [e2])).1
/-- Bytes that are those of a list of at most 60 numbers. -/
def Told (D : List UInt8) (us : List Nat) : Prop := D = whole us ∧ us.length ≤ 60 ∧ Fit64 us
theorem Told.one {D : List UInt8} {us vs : List Nat} (h : Told D us) (h' : Told D vs) : us = vs := whole_one (h.1.symm.trans h'.1)

/-- Where a reader stands: it has read us, and stands at place a. -/
def At (D : List UInt8) (m : Nat) (us : List Nat) (a : Nat) : Prop := D = putV m ++ (byS us ++ D.drop a) ∧ a = (putV m).length + (byS us).length ∧ Fit64 us
theorem at_first {D : List UInt8} {m : Nat} (h : Stands D m) : At D m [] (putV m).length := by
  obtain ⟨_, r, e⟩ := h
  refine ⟨?_, by simp [byS], fun u hu => by simp at hu⟩
  rw [byS_nil, List.nil_append]
  conv => rhs; rw [e, List.drop_left]
  exact e
theorem at_next {D : List UInt8} {m u a : Nat} {us : List Nat} (h : At D m us a) (hu : Stands (D.drop a) u) : At D m (us ++ [u]) (a + (putV u).length) := by
  obtain ⟨h1, h2, h3⟩ := h
  obtain ⟨hl, r, e⟩ := hu
  have e2 : D.drop (a + (putV u).length) = r := by rw [← List.drop_drop, e, List.drop_left]
  refine ⟨?_, ?_, ?_⟩
  · rw [e2, byS_append, byS_one, List.append_assoc, ← e]; exact h1
  · rw [byS_append, byS_one, List.length_append]; omega
  · intro x hx
    rcases List.mem_append.1 hx with hx | hx
    · exact h3 x hx
    · rw [List.mem_singleton.1 hx]; exact hl
theorem at_told {D : List UInt8} {m a : Nat} {us : List Nat} (h : At D m us a) (hm : us.length = m) (h60 : m ≤ 60) (ha : D.length ≤ a) : Told D us := by
  obtain ⟨h1, _, h3⟩ := h
  refine ⟨?_, by omega, h3⟩
  rw [List.drop_eq_nil_of_le ha, List.append_nil] at h1
  unfold whole
  rw [hm]; exact h1
/-- What is told there begins as was read. -/
theorem told_split {D : List UInt8} {m a : Nat} {us vs : List Nat} (h : At D m us a) (hv : Told D vs) (hle : us.length ≤ m) : vs.length = m ∧ vs.take us.length = us ∧ D.drop a = byS (vs.drop us.length) := by
  obtain ⟨h1, _, _⟩ := h
  obtain ⟨k1, _, _⟩ := hv
  have e := h1.symm.trans k1
  unfold whole at e
  obtain ⟨e1, e2⟩ := put_front e
  have e3 : byS vs = byS (vs.take us.length) ++ byS (vs.drop us.length) := by rw [← byS_append, List.take_append_drop]
  rw [e3] at e2
  obtain ⟨e4, e5⟩ := byS_front (by rw [List.length_take]; omega) e2
  exact ⟨e1.symm, e4.symm, e5⟩
theorem at_none {D : List UInt8} {m a : Nat} {us : List Nat} (h : At D m us a) (hle : us.length < m) (hr : readV (D.drop a) = none) : ∀ vs, ¬ Told D vs := by
  intro vs hv
  obtain ⟨e1, e2, e3⟩ := told_split h hv (by omega)
  have hlt : us.length < vs.length := by omega
  rw [List.drop_eq_getElem_cons hlt, byS_cons] at e3
  have := readV_some (D := D.drop a) (m := vs[us.length]) ⟨hv.2.2 _ (List.getElem_mem hlt), _, e3⟩
  rw [hr] at this; cases this
theorem at_more {D : List UInt8} {m a : Nat} {us : List Nat} (h : At D m us a) (hm : us.length = m) (ha : a < D.length) : ∀ vs, ¬ Told D vs := by
  intro vs hv
  obtain ⟨e1, e2, e3⟩ := told_split h hv (by omega)
  rw [hm, ← e1, List.drop_length, byS_nil] at e3
  have := congrArg List.length e3
  rw [List.length_drop] at this
  simp at this; omega
theorem none_first {D : List UInt8} (h : readV D = none) : ∀ vs, ¬ Told D vs := by
  intro vs hv
  have := readV_some (D := D) (m := vs.length) ⟨by have := hv.2.1; omega, byS vs, hv.1⟩
  rw [h] at this; cases this
theorem none_many {D : List UInt8} {m : Nat} (h : readV D = some m) (hm : 60 < m) : ∀ vs, ¬ Told D vs := by
  intro vs hv
  have := readV_some (D := D) (m := vs.length) ⟨by have := hv.2.1; omega, byS vs, hv.1⟩
  rw [h] at this
  injection this with this
  have := hv.2.1
  omega

/-- Bytes that begin with those of a list of at most 60 numbers. -/
def Fr (D : List UInt8) (us : List Nat) : Prop := (∃ r, D = whole us ++ r) ∧ us.length ≤ 60 ∧ Fit64 us
theorem Fr.of {D : List UInt8} {us : List Nat} (h : Told D us) : Fr D us := ⟨⟨[], by rw [List.append_nil]; exact h.1⟩, h.2⟩
theorem fr_split {D : List UInt8} {m a : Nat} {us vs : List Nat} (h : At D m us a) (hv : Fr D vs) (hle : us.length ≤ m) : vs.length = m ∧ vs.take us.length = us ∧ ∃ r, D.drop a = byS (vs.drop us.length) ++ r := by
  obtain ⟨h1, _, _⟩ := h
  obtain ⟨⟨r, k1⟩, _, _⟩ := hv
  have e := h1.symm.trans k1
  unfold whole at e
  rw [List.append_assoc] at e
  obtain ⟨e1, e2⟩ := put_front e
  have e3 : byS vs = byS (vs.take us.length) ++ byS (vs.drop us.length) := by rw [← byS_append, List.take_append_drop]
  rw [e3, List.append_assoc] at e2
  obtain ⟨e4, e5⟩ := byS_front (by rw [List.length_take]; omega) e2
  exact ⟨e1.symm, e4.symm, r, e5⟩
theorem fr_none {D : List UInt8} {m a : Nat} {us : List Nat} (h : At D m us a) (hle : us.length < m) (hr : readV (D.drop a) = none) : ∀ vs, ¬ Fr D vs := by
  intro vs hv
  obtain ⟨e1, e2, r, e3⟩ := fr_split h hv (by omega)
  have hlt : us.length < vs.length := by omega
  rw [List.drop_eq_getElem_cons hlt, byS_cons, List.append_assoc] at e3
  have := readV_some (D := D.drop a) (m := vs[us.length]) ⟨hv.2.2 _ (List.getElem_mem hlt), _, e3⟩
  rw [hr] at this; cases this
theorem fr_first {D : List UInt8} (h : readV D = none) : ∀ vs, ¬ Fr D vs := by
  rintro vs ⟨⟨r, e⟩, h60, hf⟩
  unfold whole at e
  rw [List.append_assoc] at e
  have := readV_some (D := D) (m := vs.length) ⟨by omega, _, e⟩
  rw [h] at this; cases this
theorem fr_many {D : List UInt8} {m : Nat} (h : readV D = some m) (hm : 60 < m) : ∀ vs, ¬ Fr D vs := by
  rintro vs ⟨⟨r, e⟩, h60, hf⟩
  unfold whole at e
  rw [List.append_assoc] at e
  have := readV_some (D := D) (m := vs.length) ⟨by omega, _, e⟩
  rw [h] at this
  injection this with this
  omega

/-- What a number differs from the one ahead, less what that one differed. -/
def ss (x : Nat → Int) (i : Nat) : Int := if i ≤ 1 then 0 else w64 (x (i - 1) - x (i - 2))
def dd (x : Nat → Int) (i : Nat) : Int := if i = 0 then x 0 else w64 (w64 (x i - x (i - 1)) - ss x i)
def at0 (l : List Int) (i : Nat) : Int := l.getD i 0
def code (l : List Int) : List Nat := (List.range l.length).map fun i => zigN (dd (at0 l) i)
/-- Steps and numbers made again. -/
def stF (z : Nat → Int) : Nat → Int
  | 0 => 0
  | i + 1 => w64 (stF z i + z (i + 1))
def laF (z : Nat → Int) : Nat → Int
  | 0 => z 0
  | i + 1 => w64 (laF z i + stF z (i + 1))
theorem stF_succ (z : Nat → Int) (i : Nat) : stF z (i + 1) = w64 (stF z i + z (i + 1)) := by rw [stF]
theorem laF_succ (z : Nat → Int) (i : Nat) : laF z (i + 1) = w64 (laF z i + stF z (i + 1)) := by rw [laF]
theorem laF_zero (z : Nat → Int) : laF z 0 = z 0 := by rw [laF]
theorem stF_zero (z : Nat → Int) : stF z 0 = 0 := by rw [stF]
def zagL (us : List Nat) (i : Nat) : Int := zagI (us.getD i 0)
def decode (us : List Nat) : List Int := (List.range us.length).map (laF (zagL us))
theorem code_len (l : List Int) : (code l).length = l.length := by simp [code]
theorem decode_len (us : List Nat) : (decode us).length = us.length := by simp [decode]
theorem dd_in {x : Nat → Int} (h : In64 (x 0)) (i : Nat) : In64 (dd x i) := by
  unfold dd; split
  · exact h
  · exact w64_in _
theorem at0_in {l : List Int} (h : ∀ x ∈ l, In64 x) (i : Nat) : In64 (at0 l i) := by
  unfold at0
  by_cases hi : i < l.length
  · have : l.getD i 0 = l[i] := by simp [List.getD, hi]
    rw [this]; exact h _ (List.getElem_mem hi)
  · have : l.getD i 0 = 0 := by simp [List.getD, Nat.le_of_not_lt hi]
    rw [this]; unfold In64; omega
theorem code_fit {l : List Int} (h : ∀ x ∈ l, In64 x) : Fit64 (code l) := by
  intro u hu
  simp only [code, List.mem_map, List.mem_range] at hu
  obtain ⟨i, _, rfl⟩ := hu
  exact zig_lt (dd_in (at0_in h 0) i)
theorem decode_in {us : List Nat} (h : Fit64 us) : ∀ x ∈ decode us, In64 x := by
  intro x hx
  simp only [decode, List.mem_map, List.mem_range] at hx
  obtain ⟨i, hi, rfl⟩ := hx
  cases i with
  | zero =>
    show In64 (zagI (us.getD 0 0))
    have : us.getD 0 0 = us[0] := by simp [List.getD, hi]
    rw [this]
    exact zag_in (h _ (List.getElem_mem hi))
  | succ i => exact w64_in _
theorem la_dd {x : Nat → Int} (hx : ∀ i, In64 (x i)) : ∀ i, laF (dd x) i = x i ∧ (0 < i → stF (dd x) i = w64 (x i - x (i - 1)))
  | 0 => ⟨by simp [laF, dd], fun h => by omega⟩
  | i + 1 => by
    obtain ⟨h1, h2⟩ := la_dd hx i
    have hs : stF (dd x) (i + 1) = w64 (x (i + 1) - x i) := by
      show w64 (stF (dd x) i + dd x (i + 1)) = _
      cases i with
      | zero =>
        simp only [stF, dd, ss]
        rw [if_neg (by omega), if_pos (by omega)]
        simp only [Nat.add_sub_cancel]
        have := w64_in (x 1 - x 0)
        unfold In64 at this
        unfold w64 at this ⊢
        omega
      | succ i =>
        rw [h2 (by omega)]
        simp only [dd, ss]
        rw [if_neg (by omega), if_neg (by omega)]
        simp only [Nat.add_sub_cancel, show i + 1 + 1 - 2 = i by omega]
        unfold w64
        omega
    refine ⟨?_, fun _ => by rw [hs]; rfl⟩
    show w64 (laF (dd x) i + stF (dd x) (i + 1)) = _
    rw [hs, h1]
    have a := hx (i + 1)
    have b := hx i
    unfold In64 at a b
    unfold w64
    omega
theorem getD_range_map {α : Type} (f : Nat → α) (d : α) (n i : Nat) (h : i < n) : ((List.range n).map f).getD i d = f i := by simp [List.getD, h]
theorem decode_code {l : List Int} (h : ∀ x ∈ l, In64 x) : decode (code l) = l := by
  have key : ∀ i, i < l.length → laF (zagL (code l)) i = at0 l i := by
    intro i hi
    have e : ∀ j, j ≤ i → laF (zagL (code l)) j = laF (dd (at0 l)) j ∧ stF (zagL (code l)) j = stF (dd (at0 l)) j := by
      have hz : ∀ j, j ≤ i → zagL (code l) j = dd (at0 l) j := fun j hj => by
        unfold zagL code
        rw [getD_range_map _ _ _ _ (by omega), zag_zig]
      intro j
      induction j with
      | zero => intro hj; rw [laF_zero, laF_zero, stF_zero, stF_zero]; exact ⟨hz 0 hj, rfl⟩
      | succ j ih =>
        intro hj
        obtain ⟨a, b⟩ := ih (by omega)
        have hst : stF (zagL (code l)) (j + 1) = stF (dd (at0 l)) (j + 1) := by
          rw [stF_succ, stF_succ, b, hz (j + 1) hj]
        refine ⟨?_, hst⟩
        rw [laF_succ, laF_succ, a, hst]
    rw [(e i (Nat.le_refl _)).1]
    exact (la_dd (at0_in h) i).1
  apply List.ext_getElem
  · rw [decode_len, code_len]
  · intro i h1 h2
    simp only [decode, List.getElem_map, List.getElem_range]
    rw [key i h2]
    simp [at0, List.getD, h2]
theorem dd_la {z : Nat → Int} (hz : ∀ i, In64 (z i)) (i : Nat) : dd (laF z) i = z i := by
  cases i with
  | zero => rfl
  | succ i =>
    have hst : ∀ j, In64 (stF z j) := fun j => by
      cases j with
      | zero => unfold In64 stF; omega
      | succ j => exact w64_in _
    have hd : ∀ j, w64 (laF z (j + 1) - laF z j) = stF z (j + 1) := fun j => by
      show w64 (w64 (laF z j + stF z (j + 1)) - laF z j) = _
      have a := hst (j + 1)
      unfold In64 at a
      unfold w64
      omega
    unfold dd
    rw [if_neg (by omega)]
    simp only [Nat.add_sub_cancel]
    rw [hd i]
    have a := hz (i + 1)
    unfold In64 at a
    cases i with
    | zero =>
      simp only [ss]
      rw [if_pos (by omega)]
      show w64 (w64 (0 + z 1) - 0) = z 1
      simp only [Nat.zero_add] at a
      unfold w64
      omega
    | succ i =>
      simp only [ss]
      rw [if_neg (by omega), show i + 1 + 1 - 1 = i + 1 by omega, show i + 1 + 1 - 2 = i by omega, hd i]
      show w64 (w64 (stF z (i + 1) + z (i + 1 + 1)) - stF z (i + 1)) = _
      unfold w64
      omega
theorem zagL_in {us : List Nat} (h : Fit64 us) (i : Nat) : In64 (zagL us i) := by
  unfold zagL
  by_cases hi : i < us.length
  · have : us.getD i 0 = us[i] := by simp [List.getD, hi]
    rw [this]; exact zag_in (h _ (List.getElem_mem hi))
  · have : us.getD i 0 = 0 := by simp [List.getD, Nat.le_of_not_lt hi]
    rw [this]; unfold zagI In64; simp
theorem dd_congr {x y : Nat → Int} {n : Nat} (h : ∀ i, i < n → x i = y i) : ∀ i, i < n → dd x i = dd y i := by
  intro i hi
  unfold dd ss
  by_cases h0 : i = 0
  · rw [if_pos h0, if_pos h0, h 0 (by omega)]
  · rw [if_neg h0, if_neg h0, h i hi, h (i - 1) (by omega)]
    by_cases h1 : i ≤ 1
    · rw [if_pos h1, if_pos h1]
    · rw [if_neg h1, if_neg h1, h (i - 2) (by omega)]
theorem code_decode {us : List Nat} (h : Fit64 us) : code (decode us) = us := by
  apply List.ext_getElem
  · rw [code_len, decode_len]
  · intro i h1 h2
    simp only [code, List.getElem_map, List.getElem_range]
    have e := dd_congr (x := at0 (decode us)) (y := laF (zagL us)) (n := us.length) (fun j hj => by unfold at0 decode; rw [getD_range_map _ _ _ _ hj]) i h2
    rw [e, dd_la (zagL_in h)]
    unfold zagL
    rw [zig_zag]
    simp [List.getD, h2]
/-- The bytes of a list. -/
def enc (l : List Int) : List UInt8 := whole (code l)
def encK (l : List Int) (k : Nat) : List UInt8 := putV l.length ++ byS ((code l).take k)
theorem encK_zero (l : List Int) : encK l 0 = putV l.length := by simp [encK, byS_nil]
theorem encK_all (l : List Int) : encK l l.length = enc l := by unfold encK enc whole; rw [← code_len l, List.take_length]
theorem code_at {l : List Int} {k : Nat} (hk : k < l.length) : (code l)[k]'(by rw [code_len]; exact hk) = zigN (dd (at0 l) k) := by simp [code]
theorem encK_succ {l : List Int} {k : Nat} (hk : k < l.length) : encK l (k + 1) = encK l k ++ putV (zigN (dd (at0 l) k)) := by
  unfold encK
  rw [List.take_succ_eq_append_getElem (by rw [code_len]; exact hk), byS_append, byS_one, code_at hk, List.append_assoc]
theorem encK_len {l : List Int} (h : ∀ x ∈ l, In64 x) (hl : l.length ≤ 1048576) (k : Nat) : (encK l k).length ≤ 10 + 10 * k := by
  unfold encK
  have h1 := putV_ten (n := l.length) (by omega)
  have h2 := byS_len (us := (code l).take k) (fun u hu => code_fit h u (List.mem_of_mem_take hu))
  have h3 := List.length_take_le k (code l)
  rw [List.length_append]
  omega
end Go.Proofs.Yteiefngamccapaa
