/- Plain mathematics of chapter 4: numbers as bytes of seven bits, their signs, lists of them by what they differ. No program is spoken of. -/
import Derived.Test.YteiefngamccapaaProg
import Derived.WalkKit
import Derived.ProofKit
import Derived.Laws.Bits64b
import Derived.Laws.DeepNot64
import Derived.KernelRfl
import Derived.Lib.Hide
import Derived.Deep.OwnRows
namespace Go.Proofs.Yteiefngamccapaa

/-- The bytes of a number: seven bits each, the lowest first, each but the last with 128 more. -/
def putV (n : Nat) : List UInt8 := if n < 128 then [UInt8.ofNat n] else UInt8.ofNat (n % 128 + 128) :: putV (n / 128)
termination_by n
decreasing_by omega
theorem putV_small {n : Nat} (h : n < 128) : putV n = [UInt8.ofNat n] := by rw [putV, if_pos h]
theorem putV_more {n : Nat} (h : ¬ n < 128) : putV n = UInt8.ofNat (n % 128 + 128) :: putV (n / 128) := by rw [putV, if_neg h]
theorem byte_of {n : Nat} (h : n < 256) : (UInt8.ofNat n).toNat = n := by
  rw [UInt8.toNat_ofNat']; omega
/-- The number that bytes of seven bits tell. -/
def valV : List UInt8 → Nat
  | [] => 0
  | b :: r => b.toNat % 128 + 128 * valV r
theorem valV_put (n : Nat) : valV (putV n) = n := by
  induction n using Nat.strongRecOn with
  | _ n ih =>
    by_cases h : n < 128
    · rw [putV_small h, valV, valV, byte_of (by omega)]; omega
    · rw [putV_more h, valV, ih (n / 128) (by omega), byte_of (by omega)]; omega
theorem putV_pos (n : Nat) : 0 < (putV n).length := by
  by_cases h : n < 128
  · rw [putV_small h]; simp
  · rw [putV_more h]; simp
theorem putV_len : ∀ (k n : Nat), n < 128 ^ (k + 1) → (putV n).length ≤ k + 1
  | 0, n, h => by rw [putV_small (by simpa using h)]; simp
  | k + 1, n, h => by
    by_cases hn : n < 128
    · rw [putV_small hn]; simp
    · rw [putV_more hn, List.length_cons]
      have := putV_len k (n / 128) (by rw [Nat.div_lt_iff_lt_mul (by decide)]; rw [Nat.pow_succ] at h; exact h)
      omega
theorem putV_ten {n : Nat} (h : n < 18446744073709551616) : (putV n).length ≤ 10 := putV_len 9 n (Nat.lt_trans h (by decide))
theorem put_front {n m : Nat} {r r' : List UInt8} (h : putV n ++ r = putV m ++ r') : n = m ∧ r = r' := by
  induction n using Nat.strongRecOn generalizing m with
  | _ n ih =>
    by_cases hn : n < 128 <;> by_cases hm : m < 128
    · rw [putV_small hn, putV_small hm] at h
      simp only [List.cons_append, List.nil_append, List.cons.injEq] at h
      have := congrArg UInt8.toNat h.1
      rw [byte_of (by omega), byte_of (by omega)] at this
      exact ⟨this, h.2⟩
    · rw [putV_small hn, putV_more hm] at h
      simp only [List.cons_append, List.nil_append, List.cons.injEq] at h
      have := congrArg UInt8.toNat h.1
      rw [byte_of (by omega), byte_of (by omega)] at this
      omega
    · rw [putV_more hn, putV_small hm] at h
      simp only [List.cons_append, List.nil_append, List.cons.injEq] at h
      have := congrArg UInt8.toNat h.1
      rw [byte_of (by omega), byte_of (by omega)] at this
      omega
    · rw [putV_more hn, putV_more hm] at h
      simp only [List.cons_append, List.cons.injEq] at h
      have e := congrArg UInt8.toNat h.1
      rw [byte_of (by omega), byte_of (by omega)] at e
      obtain ⟨e2, e3⟩ := ih (n / 128) (by omega) h.2
      exact ⟨by omega, e3⟩
/-- The bytes of n stand at the front of D. -/
def Stands (D : List UInt8) (n : Nat) : Prop := n < 18446744073709551616 ∧ ∃ r, D = putV n ++ r
theorem Stands.one {D : List UInt8} {n m : Nat} (h : Stands D n) (h' : Stands D m) : n = m := by
  obtain ⟨_, r, e⟩ := h
  obtain ⟨_, r', e'⟩ := h'
  exact (put_front (e.symm.trans e')).1
/-- Where the first byte below 128 stands at place k, whatever stands there is told by the first k + 1 bytes. -/
theorem stands_at : ∀ {k : Nat} {D : List UInt8} {m : Nat}, (∃ r, D = putV m ++ r) → ∀ (hk : k < D.length), (∀ i (h : i < k), 128 ≤ (D[i]'(by omega)).toNat) → (D[k]'hk).toNat < 128 → putV m = D.take (k + 1) ∧ m = valV (D.take (k + 1))
  | k, D, m, ⟨r, e⟩, hk, hb, hs => by
    have key : putV m = D.take (k + 1) := by
      induction k generalizing D m with
      | zero =>
        by_cases hm : m < 128
        · rw [putV_small hm] at e ⊢; rw [e]; simp
        · exfalso
          rw [putV_more hm] at e
          subst e
          simp only [List.cons_append, List.getElem_cons_zero] at hs
          rw [byte_of (by omega)] at hs
          omega
      | succ k ih =>
        by_cases hm : m < 128
        · exfalso
          rw [putV_small hm] at e
          have h0 := hb 0 (by omega)
          subst e
          simp only [List.cons_append, List.getElem_cons_zero] at h0
          rw [byte_of (by omega)] at h0
          omega
        · rw [putV_more hm] at e ⊢
          subst e
          simp only [List.cons_append, List.take_succ_cons, List.cons.injEq, true_and]
          refine ih _ _ rfl (by simpa using hk) (fun i hi => ?_) (by simpa using hs)
          have := hb (i + 1) (by omega)
          simpa using this
    exact ⟨key, by rw [← key, valV_put]⟩
/-- What stands there ends within ten bytes. -/
theorem stands_end {D : List UInt8} {m : Nat} (h : Stands D m) : ∃ (k : Nat) (hk : k < D.length), k < 10 ∧ (∀ i (h : i < k), 128 ≤ (D[i]'(by omega)).toNat) ∧ (D[k]'hk).toNat < 128 := by
  obtain ⟨hm, r, e⟩ := h
  have key : ∀ (n : Nat) (D : List UInt8), D = putV n ++ r → ∃ (k : Nat) (hk : k < D.length), k + 1 = (putV n).length ∧ (∀ i (h : i < k), 128 ≤ (D[i]'(by omega)).toNat) ∧ (D[k]'hk).toNat < 128 := by
    intro n
    induction n using Nat.strongRecOn with
    | _ n ih =>
      intro D e
      by_cases hn : n < 128
      · rw [putV_small hn] at e ⊢
        subst e
        exact ⟨0, by simp, rfl, fun i hi => by omega, by simp only [List.cons_append, List.getElem_cons_zero]; rw [byte_of (by omega)]; exact hn⟩
      · obtain ⟨k, hk, hl, hb, hs⟩ := ih (n / 128) (by omega) _ rfl
        rw [putV_more hn] at e ⊢
        subst e
        refine ⟨k + 1, by simpa using hk, by simp [hl], fun i hi => ?_, by simpa using hs⟩
        cases i with
        | zero => simp only [List.cons_append, List.getElem_cons_zero]; rw [byte_of (by omega)]; omega
        | succ i => simpa using hb i (by omega)
  obtain ⟨k, hk, hl, hb, hs⟩ := key m D e
  exact ⟨k, hk, by have := putV_ten hm; omega, hb, hs⟩
theorem valV_snoc (l : List UInt8) (b : UInt8) : valV (l ++ [b]) = valV l + (b.toNat % 128) * 128 ^ l.length := by
  induction l with
  | nil => simp [valV]
  | cons c l ih =>
    simp only [List.cons_append, valV, ih, List.length_cons, Nat.pow_succ, Nat.mul_add, Nat.add_assoc]
    congr 2
    rw [Nat.mul_comm 128, Nat.mul_assoc]
theorem valV_lt (l : List UInt8) : valV l < 128 ^ l.length := by
  induction l with
  | nil => simp [valV]
  | cons c l ih =>
    simp only [valV, List.length_cons, Nat.pow_succ]
    have : c.toNat % 128 < 128 := Nat.mod_lt _ (by decide)
    omega
theorem valV_take {D : List UInt8} {k : Nat} (hk : k < D.length) : valV (D.take (k + 1)) = valV (D.take k) + ((D[k]'hk).toNat % 128) * 128 ^ k := by
  rw [List.take_succ_eq_append_getElem hk, valV_snoc, List.length_take, Nat.min_eq_left (by omega)]
/-- Bytes of seven bits, each but the last of 128 at least and the last not 0 where there are several, are those of their number. -/
theorem put_val : ∀ {l : List UInt8} (h : 0 < l.length), (∀ i (hi : i + 1 < l.length), 128 ≤ (l[i]'(by omega)).toNat) → (l[l.length - 1]'(by omega)).toNat < 128 → (1 < l.length → 0 < (l[l.length - 1]'(by omega)).toNat) → putV (valV l) = l
  | [], h, _, _, _ => by simp at h
  | [b], _, _, hs, _ => by
    have hs' : b.toNat < 128 := by simpa using hs
    rw [valV, valV, Nat.mul_zero, Nat.add_zero, Nat.mod_eq_of_lt hs', putV_small hs']
    simp
  | b :: c :: l, _, hb, hs, hz => by
    have h0 : 128 ≤ b.toNat := by have := hb 0 (by simp); simpa using this
    have hlt := b.toNat_lt
    have hr := put_val (l := c :: l) (by simp) (fun i hi => by have := hb (i + 1) (by simpa using hi); simpa using this) (by simpa using hs) (fun _ => by have := hz (by simp); simpa using this)
    have hpos : 0 < valV (c :: l) := by
      have hl : ∀ (q : List UInt8) (hq : 0 < q.length), 0 < (q[q.length - 1]'(by omega)).toNat % 128 → 0 < valV q := by
        intro q
        induction q with
        | nil => intro hq; simp at hq
        | cons x q ih =>
          intro _ hx
          cases q with
          | nil => simp only [valV]; simpa using hx
          | cons y q =>
            have := ih (by simp) (by simpa using hx)
            simp only [valV] at this ⊢
            omega
      refine hl (c :: l) (by simp) ?_
      have e1 := hz (by simp)
      have e2 := hs
      simp only [List.length_cons, Nat.add_sub_cancel, List.getElem_cons_succ] at e1 e2 ⊢
      rw [Nat.mod_eq_of_lt e2]; exact e1
    rw [valV, putV_more (by omega)]
    have e1 : (b.toNat % 128 + 128 * valV (c :: l)) / 128 = valV (c :: l) := by omega
    have e2 : (b.toNat % 128 + 128 * valV (c :: l)) % 128 + 128 = b.toNat := by omega
    rw [e1, e2, hr]
    simp

/-- A number with its sign laid in the lowest bit. -/
def zigN (z : Int) : Nat := if 0 ≤ z then (2 * z).toNat else (-(2 * z) - 1).toNat
def zagI (u : Nat) : Int := if u % 2 = 0 then (u / 2 : Nat) else -((u / 2 : Nat) : Int) - 1
def In64 (z : Int) : Prop := -9223372036854775808 ≤ z ∧ z ≤ 9223372036854775807
theorem zig_lt {z : Int} (h : In64 z) : zigN z < 18446744073709551616 := by unfold zigN; unfold In64 at h; split <;> omega
theorem zag_in {u : Nat} (h : u < 18446744073709551616) : In64 (zagI u) := by unfold zagI In64; split <;> omega
theorem zag_zig (z : Int) : zagI (zigN z) = z := by unfold zagI zigN; split <;> split <;> omega
theorem zig_zag (u : Nat) : zigN (zagI u) = u := by unfold zagI zigN; split <;> split <;> omega

/-- Numbers in the bounds of an int, what is beyond going round. -/
def w64 (n : Int) : Int := (n + 9223372036854775808) % 18446744073709551616 - 9223372036854775808
theorem w64_in (n : Int) : In64 (w64 n) := by unfold In64 w64; omega
theorem w64_id {n : Int} (h : In64 n) : w64 n = n := by unfold In64 at h; unfold w64; omega

/-- The bytes of the further numbers of a list, by the last one and what it differed. -/
def encR : Int → Int → List Int → List UInt8
  | _, _, [] => []
  | last, step, n :: r => putV (zigN (w64 (w64 (n - last) - step))) ++ encR n (w64 (n - last)) r
def encL : List Int → List UInt8
  | [] => putV 0
  | n :: r => putV (r.length + 1) ++ (putV (zigN n) ++ encR n 0 r)
theorem encR_front : ∀ {l l' : List Int} {last step : Int} {r r' : List UInt8}, l.length = l'.length → (∀ n ∈ l, In64 n) → (∀ n ∈ l', In64 n) → encR last step l ++ r = encR last step l' ++ r' → l = l' ∧ r = r'
  | [], [], _, _, _, _, _, _, _, h => ⟨rfl, h⟩
  | [], _ :: _, _, _, _, _, h, _, _, _ => by simp at h
  | _ :: _, [], _, _, _, _, h, _, _, _ => by simp at h
  | n :: l, m :: l', last, step, r, r', hl, hi, hj, h => by
    simp only [encR, List.append_assoc] at h
    obtain ⟨e1, e2⟩ := put_front h
    have e3 := congrArg zagI e1
    rw [zag_zig, zag_zig] at e3
    have a := hi n (List.mem_cons_self ..)
    have b := hj m (List.mem_cons_self ..)
    have e4 : n = m := by unfold In64 at a b; unfold w64 at e3; omega
    subst e4
    obtain ⟨e5, e6⟩ := encR_front (by simpa using hl) (fun x hx => hi x (List.mem_cons_of_mem _ hx)) (fun x hx => hj x (List.mem_cons_of_mem _ hx)) e2
    exact ⟨by rw [e5], e6⟩
theorem encL_front {l l' : List Int} {r r' : List UInt8} (hi : ∀ n ∈ l, In64 n) (hj : ∀ n ∈ l', In64 n) (h : encL l ++ r = encL l' ++ r') : l = l' ∧ r = r' := by
  cases l with
  | nil =>
    cases l' with
    | nil => exact ⟨rfl, List.append_cancel_left h⟩
    | cons m l' => simp only [encL, List.append_assoc] at h; have := (put_front h).1; omega
  | cons n l =>
    cases l' with
    | nil => simp only [encL, List.append_assoc] at h; have := (put_front h).1; omega
    | cons m l' =>
      simp only [encL, List.append_assoc] at h
      obtain ⟨e1, e2⟩ := put_front h
      obtain ⟨e3, e4⟩ := put_front e2
      have e5 : n = m := by have := congrArg zagI e3; rwa [zag_zig, zag_zig] at this
      subst e5
      obtain ⟨e6, e7⟩ := encR_front (by omega) (fun x hx => hi x (List.mem_cons_of_mem _ hx)) (fun x hx => hj x (List.mem_cons_of_mem _ hx)) e4
      exact ⟨by rw [e6], e7⟩
theorem encL_one {l l' : List Int} (hi : ∀ n ∈ l, In64 n) (hj : ∀ n ∈ l', In64 n) (h : encL l = encL l') : l = l' := (encL_front (r := []) (r' := []) hi hj (by rw [h])).1
theorem encR_snoc : ∀ (l : List Int) (last step n : Int), encR last step (l ++ [n]) = encR last step l ++ putV (zigN (w64 (w64 (n - (last :: l).getLast (by simp)) - (step :: (List.zipWith (fun a b => w64 (b - a)) (last :: l) l)).getLast (by simp))))
  | [], last, step, n => by simp [encR]
  | m :: l, last, step, n => by
    have ih := encR_snoc l m (w64 (m - last)) n
    simp only [List.cons_append, encR, List.append_assoc, ih]
    congr 5
theorem encR_len : ∀ (l : List Int) (last step : Int), (encR last step l).length ≤ 10 * l.length
  | [], _, _ => by simp [encR]
  | n :: l, last, step => by
    have h1 := encR_len l n (w64 (n - last))
    have h2 := putV_ten (zig_lt (w64_in (w64 (n - last) - step)))
    simp only [encR, List.length_append, List.length_cons]
    omega
theorem encL_len {l : List Int} (h : ∀ n ∈ l, In64 n) (hl : l.length < 18446744073709551616) : (encL l).length ≤ 10 * (l.length + 1) := by
  cases l with
  | nil => simp only [encL]; exact putV_ten (by decide)
  | cons n l =>
    have h1 := encR_len l n 0
    have h2 := putV_ten (zig_lt (h n (List.mem_cons_self ..)))
    have h3 := putV_ten hl
    simp only [encL, List.length_append, List.length_cons] at h3 ⊢
    omega
end Go.Proofs.Yteiefngamccapaa
namespace Go.Proofs.Yteiefngamccapaa

/-- The lowest k bits of u, in their opposite order. -/
def revN (u : Nat) : Nat → Nat
  | 0 => 0
  | k + 1 => 2 * revN u k + u / 2 ^ k % 2
theorem revN_lt (u : Nat) : ∀ k, revN u k < 2 ^ k
  | 0 => by simp [revN]
  | k + 1 => by
    have := revN_lt u k
    have h2 : u / 2 ^ k % 2 < 2 := Nat.mod_lt _ (by decide)
    rw [revN, Nat.pow_succ]; omega
theorem revN_bit (u : Nat) : ∀ k i, (revN u k).testBit i = (decide (i < k) && u.testBit (k - 1 - i))
  | 0, i => by simp [revN]
  | k + 1, i => by
    have hb : u / 2 ^ k % 2 < 2 := Nat.mod_lt _ (by decide)
    cases i with
    | zero =>
      rw [revN, Nat.testBit_zero]
      have : (2 * revN u k + u / 2 ^ k % 2) % 2 = u / 2 ^ k % 2 := by omega
      rw [this, Nat.add_sub_cancel, Nat.sub_zero, Nat.testBit_eq_decide_div_mod_eq]
      simp
    | succ i =>
      rw [revN, Nat.testBit_succ]
      have : (2 * revN u k + u / 2 ^ k % 2) / 2 = revN u k := by omega
      rw [this, revN_bit u k i, Nat.add_sub_cancel]
      have e : k - 1 - i = k - (i + 1) := by omega
      rw [e]
      simp
/-- The 64 bits in their opposite order. -/
def flipN (u : Nat) : Nat := revN u 64
theorem flipN_lt (u : Nat) : flipN u < 18446744073709551616 := revN_lt u 64
theorem flipN_flip {u : Nat} (h : u < 18446744073709551616) : flipN (flipN u) = u := by
  apply Nat.eq_of_testBit_eq
  intro i
  unfold flipN
  rw [revN_bit, revN_bit]
  by_cases hi : i < 64
  · have h1 : 64 - 1 - i < 64 := by omega
    have h2 : 64 - 1 - (64 - 1 - i) = i := by omega
    rw [h2]; simp [hi, h1]
  · have : u.testBit i = false := Nat.testBit_lt_two_pow (Nat.lt_of_lt_of_le h (Nat.pow_le_pow_right (n := 2) (i := 64) (by decide) (by omega)))
    simp [hi, this]
theorem flipN_of {u v : Nat} (hv : v < 18446744073709551616) (h : ∀ i, i < 64 → v.testBit i = u.testBit (63 - i)) : v = flipN u := by
  apply Nat.eq_of_testBit_eq
  intro i
  unfold flipN
  rw [revN_bit]
  by_cases hi : i < 64
  · rw [h i hi]; simp [hi]
  · rw [Nat.testBit_lt_two_pow (Nat.lt_of_lt_of_le hv (Nat.pow_le_pow_right (n := 2) (i := 64) (by decide) (by omega)))]; simp [hi]
/-- All 64 bits turned: what is left of the greatest. -/
theorem xor_ones {x : Nat} (h : x < 18446744073709551616) : x ^^^ 18446744073709551615 = 18446744073709551615 - x := by
  have e := congrArg BitVec.toNat (BitVec.xor_allOnes (x := BitVec.ofNat 64 x))
  rw [BitVec.toNat_xor, BitVec.toNat_not, BitVec.toNat_allOnes, BitVec.toNat_ofNat, Nat.mod_eq_of_lt h] at e
  exact e
/-- A part below 2^k and one above it, laid together by 'or', are added. -/
theorem or_parts {a b k : Nat} (h : a < 2 ^ k) : a ||| (b * 2 ^ k) = a + b * 2 ^ k := by
  rw [Nat.or_comm, Nat.mul_comm b, ← Nat.two_pow_add_eq_or_of_lt h b, Nat.add_comm]

/-- Neighbours of k bits change places. -/
def swp (k M x : Nat) : Nat := (x / 2 ^ k &&& M) ||| ((x &&& M) * 2 ^ k % 18446744073709551616)
def plc (k M i : Nat) : Nat := if M.testBit i = true then k + i else i - k
def Fits (k M : Nat) : Prop := ∀ i, i < 64 → (M.testBit i = true → i < k ∨ M.testBit (i - k) = false) ∧ (M.testBit i = false → k ≤ i ∧ M.testBit (i - k) = true)
instance (k M : Nat) : Decidable (Fits k M) := by unfold Fits; infer_instance
theorem swp_bit {k M : Nat} (hf : Fits k M) (x : Nat) {i : Nat} (hi : i < 64) : (swp k M x).testBit i = x.testBit (plc k M i) := by
  unfold swp plc
  have e2 : (18446744073709551616 : Nat) = 2 ^ 64 := by decide
  rw [e2, Nat.testBit_or, Nat.testBit_and, Nat.testBit_div_two_pow, Nat.testBit_mod_two_pow, ← Nat.shiftLeft_eq, Nat.testBit_shiftLeft, Nat.testBit_and]
  cases hM : M.testBit i with
  | true =>
    rcases (hf i hi).1 hM with h | h
    · simp [show ¬ k ≤ i by omega, Nat.add_comm]
    · simp [h, Nat.add_comm]
  | false =>
    obtain ⟨h1, h2⟩ := (hf i hi).2 hM
    simp [h1, h2, hi]
theorem swp_lt (k M x : Nat) (hM : M < 18446744073709551616) : swp k M x < 18446744073709551616 := by
  unfold swp
  have e2 : (18446744073709551616 : Nat) = 2 ^ 64 := by decide
  rw [e2] at hM ⊢
  exact Nat.or_lt_two_pow (Nat.lt_of_le_of_lt Nat.and_le_right hM) (Nat.mod_lt _ (by decide))
def half (x : Nat) : Nat := x / 2 ^ 32 ||| (x * 2 ^ 32 % 18446744073709551616)
theorem half_bit {x : Nat} (hx : x < 18446744073709551616) {i : Nat} (hi : i < 64) : (half x).testBit i = x.testBit (if i < 32 then 32 + i else i - 32) := by
  unfold half
  have e2 : (18446744073709551616 : Nat) = 2 ^ 64 := by decide
  rw [e2, Nat.testBit_or, Nat.testBit_div_two_pow, Nat.testBit_mod_two_pow, ← Nat.shiftLeft_eq, Nat.testBit_shiftLeft]
  by_cases h : i < 32
  · simp [h, show ¬ 32 ≤ i by omega, Nat.add_comm]
  · have : x.testBit (i + 32) = false := Nat.testBit_lt_two_pow (Nat.lt_of_lt_of_le hx (Nat.pow_le_pow_right (n := 2) (i := 64) (by decide) (by omega)))
    simp [h, this, hi, show 32 ≤ i by omega]
theorem half_lt {x : Nat} (hx : x < 18446744073709551616) : half x < 18446744073709551616 := by
  unfold half
  have e2 : (18446744073709551616 : Nat) = 2 ^ 64 := by decide
  rw [e2] at hx ⊢
  exact Nat.or_lt_two_pow (Nat.lt_of_le_of_lt (Nat.div_le_self _ _) hx) (Nat.mod_lt _ (by decide))
def m0 : Nat := 6148914691236517205
def m1 : Nat := 3689348814741910323
def m2 : Nat := 1085102592571150095
def m3 : Nat := 71777214294589695
def m4 : Nat := 281470681808895
theorem fits0 : Fits 1 m0 := by decide
theorem fits1 : Fits 2 m1 := by decide
theorem fits2 : Fits 4 m2 := by decide
theorem fits3 : Fits 8 m3 := by decide
theorem fits4 : Fits 16 m4 := by decide
theorem places : ∀ i, i < 64 → (if i < 32 then 32 + i else i - 32) < 64 ∧ plc 16 m4 (if i < 32 then 32 + i else i - 32) < 64 ∧ plc 8 m3 (plc 16 m4 (if i < 32 then 32 + i else i - 32)) < 64 ∧ plc 4 m2 (plc 8 m3 (plc 16 m4 (if i < 32 then 32 + i else i - 32))) < 64 ∧ plc 2 m1 (plc 4 m2 (plc 8 m3 (plc 16 m4 (if i < 32 then 32 + i else i - 32)))) < 64 ∧ plc 1 m0 (plc 2 m1 (plc 4 m2 (plc 8 m3 (plc 16 m4 (if i < 32 then 32 + i else i - 32))))) = 63 - i := by decide
theorem flip_steps {u : Nat} : half (swp 16 m4 (swp 8 m3 (swp 4 m2 (swp 2 m1 (swp 1 m0 u))))) = flipN u := by
  refine flipN_of (half_lt (swp_lt _ _ _ (by decide))) fun i hi => ?_
  obtain ⟨h0, h1, h2, h3, h4, h5⟩ := places i hi
  rw [half_bit (swp_lt _ _ _ (by decide)) hi, swp_bit fits4 _ h0, swp_bit fits3 _ h1, swp_bit fits2 _ h2, swp_bit fits1 _ h3, swp_bit fits0 _ h4, h5]
end Go.Proofs.Yteiefngamccapaa
namespace Go.Proofs.Yteiefngamccapaa
open Go.RowKit

theorem ret_int {k : IntKind} {a b : Int} (h : a = b) : Ending.returned (.int k a) = .returned (.int k b) := by rw [h]
theorem xor_comm64 (a b : Int) : bits .xor .i64 a b = bits .xor .i64 b a := by
  show IntKind.i64.wrap ((BitVec.ofInt 64 a ^^^ BitVec.ofInt 64 b).toNat : Int) = IntKind.i64.wrap ((BitVec.ofInt 64 b ^^^ BitVec.ofInt 64 a).toNat : Int)
  rw [BitVec.xor_comm]
theorem xor_zero64 (a : Nat) (ha : a < 9223372036854775808) : bits .xor .i64 (a : Int) 0 = (a : Int) := by
  show IntKind.i64.wrap ((BitVec.ofInt 64 (a : Int) ^^^ BitVec.ofInt 64 0).toNat : Int) = _
  have e : BitVec.ofInt 64 0 = 0#64 := by decide
  rw [e, BitVec.xor_zero, BitVec.ofInt_natCast, BitVec.toNat_ofNat, Nat.mod_eq_of_lt (by omega)]
  rw [IntKind.wrap_i64]; omega
theorem and_one (u : Nat) (hu : u < 18446744073709551616) : bits .and .u64 (u : Int) 1 = ((u % 2 : Nat) : Int) := by
  have h := bits_and_u64_nat u 1 hu (by decide)
  rw [Nat.and_one_is_mod] at h
  exact h
theorem zig_bits {z : Int} (hz : In64 z) : bits .xor .u64 (IntKind.u64.wrap (IntKind.u64.wrap z * 2)) (IntKind.u64.wrap (z / 9223372036854775808)) = (zigN z : Int) := by
  unfold In64 at hz
  rw [IntKind.wrap_u64, IntKind.wrap_u64, IntKind.wrap_u64]
  unfold zigN
  by_cases h : 0 ≤ z
  · rw [if_pos h]
    have e1 : z % 18446744073709551616 * 2 % 18446744073709551616 = (((2 * z).toNat : Nat) : Int) := by omega
    have e2 : z / 9223372036854775808 % 18446744073709551616 = ((0 : Nat) : Int) := by omega
    rw [e1, e2, bits_xor_u64_nat _ _ (by omega) (by decide), Nat.xor_zero]
  · rw [if_neg h]
    have e1 : z % 18446744073709551616 * 2 % 18446744073709551616 = (((18446744073709551616 + 2 * z).toNat : Nat) : Int) := by omega
    have e2 : z / 9223372036854775808 % 18446744073709551616 = ((18446744073709551615 : Nat) : Int) := by omega
    rw [e1, e2, bits_xor_u64_nat _ _ (by omega) (by decide), xor_ones (by omega)]
    omega
theorem zag_bits {u : Nat} (hu : u < 18446744073709551616) : bits .xor .i64 ((u : Int) / 2) (RowKit.wrap64 (-RowKit.wrap64 (bits .and .u64 (u : Int) 1))) = zagI u := by
  rw [and_one u hu]
  unfold zagI
  have e0 : (u : Int) / 2 = ((u / 2 : Nat) : Int) := by omega
  by_cases h : u % 2 = 0
  · rw [if_pos h, h, e0]
    have e2 : RowKit.wrap64 (-RowKit.wrap64 ((0 : Nat) : Int)) = 0 := by unfold RowKit.wrap64; omega
    rw [e2]
    exact xor_zero64 (u / 2) (by omega)
  · have h1 : u % 2 = 1 := by omega
    rw [if_neg h, h1, e0]
    have e2 : RowKit.wrap64 (-RowKit.wrap64 ((1 : Nat) : Int)) = -1 := by unfold RowKit.wrap64; omega
    rw [e2, xor_comm64, i64_not _ (by omega)]
    omega

theorem zig18 (z : Int) (hz : In64 z) (w : World) : Calls Try.prog 124 #[.int .i64 z] w fun e w' => e = .returned (.int .u64 (zigN z)) ∧ w = w' := by
  have H := Lib.hid hz
  unfold In64 at hz
  go_enter Try.func124, Try.ntmps124
  go_wp2
  go_ret
  exact ⟨ret_int (zig_bits H.out), rfl⟩
theorem zig20 (z : Int) (hz : In64 z) (w : World) : Calls Try.prog 120 #[.int .i64 z] w fun e w' => e = .returned (.int .u64 (zigN z)) ∧ w = w' := by
  have H := Lib.hid hz
  unfold In64 at hz
  go_enter Try.func120, Try.ntmps120
  go_wp2
  go_ret
  exact ⟨ret_int (zig_bits H.out), rfl⟩
theorem zag21 (u : Nat) (hu : u < 18446744073709551616) (w : World) : Calls Try.prog 128 #[.int .u64 u] w fun e w' => e = .returned (.int .i64 (zagI u)) ∧ w = w' := by
  go_enter Try.func128, Try.ntmps128
  go_wp2
  go_ret
  exact ⟨ret_int (zag_bits hu), rfl⟩
theorem zag22 (u : Nat) (hu : u < 18446744073709551616) (w : World) : Calls Try.prog 118 #[.int .u64 u] w fun e w' => e = .returned (.int .i64 (zagI u)) ∧ w = w' := by
  go_enter Try.func118, Try.ntmps118
  go_wp2
  go_ret
  exact ⟨ret_int (zag_bits hu), rfl⟩

theorem swp_int (j M x : Nat) (hx : x < 18446744073709551616) (hM : M < 18446744073709551616) :
    bits .or .u64 (bits .and .u64 ((x : Int) / ((2 ^ j : Nat) : Int)) (M : Int)) (IntKind.u64.wrap (bits .and .u64 (x : Int) (M : Int) * ((2 ^ j : Nat) : Int))) = ((swp j M x : Nat) : Int) := by
  have h1 : x / 2 ^ j < 18446744073709551616 := Nat.lt_of_le_of_lt (Nat.div_le_self _ _) hx
  rw [← Int.natCast_ediv, bits_and_u64_nat _ _ h1 hM, bits_and_u64_nat _ _ hx hM, IntKind.wrap_u64]
  have e : (((x &&& M : Nat) : Int) * ((2 ^ j : Nat) : Int)) % 18446744073709551616 = (((x &&& M) * 2 ^ j % 18446744073709551616 : Nat) : Int) := by
    rw [Int.natCast_emod, Int.natCast_mul]; rfl
  rw [e, bits_or_u64_nat _ _ (Nat.lt_of_le_of_lt Nat.and_le_right hM) (Nat.mod_lt _ (by decide))]
  rfl
theorem half_int (x : Nat) (hx : x < 18446744073709551616) :
    bits .or .u64 ((x : Int) / 4294967296) (IntKind.u64.wrap ((x : Int) * 4294967296)) = ((half x : Nat) : Int) := by
  have h1 : x / 2 ^ 32 < 18446744073709551616 := Nat.lt_of_le_of_lt (Nat.div_le_self _ _) hx
  have e0 : (x : Int) / 4294967296 = ((x / 2 ^ 32 : Nat) : Int) := by omega
  have e : (x : Int) * 4294967296 % 18446744073709551616 = ((x * 2 ^ 32 % 18446744073709551616 : Nat) : Int) := by omega
  rw [IntKind.wrap_u64, e0, e, bits_or_u64_nat _ _ h1 (Nat.mod_lt _ (by decide))]
  rfl
theorem sw0 (x : Nat) (hx : x < 18446744073709551616) : bits .or .u64 (bits .and .u64 ((x : Int) / 2) 6148914691236517205) (IntKind.u64.wrap (bits .and .u64 (x : Int) 6148914691236517205 * 2)) = ((swp 1 m0 x : Nat) : Int) := swp_int 1 m0 x hx (by decide)
theorem sw1 (x : Nat) (hx : x < 18446744073709551616) : bits .or .u64 (bits .and .u64 ((x : Int) / 4) 3689348814741910323) (IntKind.u64.wrap (bits .and .u64 (x : Int) 3689348814741910323 * 4)) = ((swp 2 m1 x : Nat) : Int) := swp_int 2 m1 x hx (by decide)
theorem sw2 (x : Nat) (hx : x < 18446744073709551616) : bits .or .u64 (bits .and .u64 ((x : Int) / 16) 1085102592571150095) (IntKind.u64.wrap (bits .and .u64 (x : Int) 1085102592571150095 * 16)) = ((swp 4 m2 x : Nat) : Int) := swp_int 4 m2 x hx (by decide)
theorem sw3 (x : Nat) (hx : x < 18446744073709551616) : bits .or .u64 (bits .and .u64 ((x : Int) / 256) 71777214294589695) (IntKind.u64.wrap (bits .and .u64 (x : Int) 71777214294589695 * 256)) = ((swp 8 m3 x : Nat) : Int) := swp_int 8 m3 x hx (by decide)
theorem sw4 (x : Nat) (hx : x < 18446744073709551616) : bits .or .u64 (bits .and .u64 ((x : Int) / 65536) 281470681808895) (IntKind.u64.wrap (bits .and .u64 (x : Int) 281470681808895 * 65536)) = ((swp 16 m4 x : Nat) : Int) := swp_int 16 m4 x hx (by decide)
theorem rev58 (u : Nat) (hu : u < 18446744073709551616) (w : World) : Calls Try.prog 131 #[.int .u64 u] w fun e w' => e = .returned (.int .u64 (half (swp 16 m4 (swp 8 m3 u)) : Nat)) ∧ w = w' := by
  go_enter Try.func131, Try.ntmps131
  go_wp2
  go_ret
  refine ⟨ret_int ?_, rfl⟩
  rw [sw3 _ hu, sw4 _ (swp_lt _ _ _ (by decide)), half_int _ (swp_lt _ _ _ (by decide))]
theorem rev40 (u : Nat) (hu : u < 18446744073709551616) (w : World) : Calls Try.prog 127 #[.int .u64 u] w fun e w' => e = .returned (.int .u64 (flipN u)) ∧ w = w' := by
  go_enter Try.func127, Try.ntmps127
  go_wp2_with fail
  rw [sw0 _ hu, sw1 _ (swp_lt _ _ _ (by decide)), sw2 _ (swp_lt _ _ _ (by decide))]
  refine (rev58 _ (swp_lt _ _ _ (by decide)) _).mono ?_
  rintro e w1 ⟨rfl, rfl⟩
  go_wp2
  go_ret
  exact ⟨ret_int (by rw [flip_steps]), rfl⟩
theorem flip19 (u : Nat) (hu : u < 18446744073709551616) (w : World) : Calls Try.prog 109 #[.int .u64 u] w fun e w' => e = .returned (.int .u64 (flipN u)) ∧ w = w' := by
  go_enter Try.func109, Try.ntmps109
  go_wp2_with fail
  refine (rev40 u hu _).mono ?_
  rintro e w1 ⟨rfl, rfl⟩
  go_wp2
  go_ret
  exact ⟨rfl, rfl⟩
theorem rev_step (u : Nat) (hu : u < 18446744073709551616) {k : Nat} (hk : k < 64) : bits .or .u64 (IntKind.u64.wrap ((revN u k : Int) * 2)) (bits .and .u64 ((u : Int) / ((2 ^ k : Nat) : Int)) 1) = (revN u (k + 1) : Int) := by
  have hl := revN_lt u k
  have hp : 2 ^ k ≤ 2 ^ 63 := Nat.pow_le_pow_right (by decide) (by omega)
  have h1 : u / 2 ^ k < 18446744073709551616 := Nat.lt_of_le_of_lt (Nat.div_le_self _ _) hu
  have hm : u / 2 ^ k % 2 < 2 ^ 1 := Nat.mod_lt _ (by decide)
  have e : (revN u k : Int) * 2 % 18446744073709551616 = ((revN u k * 2 ^ 1 : Nat) : Int) := by omega
  rw [← Int.natCast_ediv, and_one _ h1, IntKind.wrap_u64, e, bits_or_u64_nat _ _ (by omega) (by omega), Nat.or_comm, or_parts hm, revN]
  omega
theorem flip23 (u : Nat) (hu : u < 18446744073709551616) (w : World) : Calls Try.prog 99 #[.int .u64 u] w fun e w' => e = .returned (.int .u64 (flipN u)) ∧ w = w' := by
  have HU := Lib.hid hu
  go_enter Try.func99, Try.ntmps99
  go_wp2
  go_loop [3, 4] (fun q i => ∃ k : Nat, k ≤ 64 ∧ i = .int .i64 k ∧ q = .int .u64 (revN u k)) (fun _ i => 64 - (intOf i).toNat)
  case atStart => exact ⟨0, Nat.zero_le _, rfl, rfl⟩
  case round =>
    obtain ⟨k, hk, rfl, rfl⟩ := hrel
    by_cases hlt : k < 64
    · have HS := Lib.hid (rev_step u HU.out hlt)
      go_wp2
      go_round
      case rel => exact ⟨k + 1, by omega, by go_num, by rw [← HS.out]; go_num⟩
      case measure => simp [intOf]; omega
    · obtain rfl : k = 64 := by omega
      go_wp2
      go_ret
      exact ⟨rfl, rfl⟩
end Go.Proofs.Yteiefngamccapaa
