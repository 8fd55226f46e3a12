/- Plain mathematics of chapter 4: numbers as bytes of seven bits, their signs, lists of them by what they differ. No program is spoken of. -/
namespace Go.Proofs.Yteiefngamccapaa

/-- The bytes of a number: seven bits each, the lowest first, each but the last with 128 more. -/
def putV (n : Nat) : List UInt8 := if n < 128 then [UInt8.ofNat n] else UInt8.ofNat (n % 128 + 128) :: putV (n / 128)
termination_by n
decreasing_by omega
theorem putV_small {n : Nat} (h : n < 128) : putV n = [UInt8.ofNat n] := by rw [putV, if_pos h]
theorem putV_more {n : Nat} (h : ¬ n < 128) : putV n = UInt8.ofNat (n % 128 + 128) :: putV (n / 128) := by rw [putV, if_neg h]
theorem byte_of {n : Nat} (h : n < 256) : (UInt8.ofNat n).toNat = n := by
  rw [UInt8.toNat_ofNat']; omega
/-- The number that bytes of seven bits tell. -/
def valV : List UInt8 → Nat
  | [] => 0
  | b :: r => b.toNat % 128 + 128 * valV r
theorem valV_put (n : Nat) : valV (putV n) = n := by
  induction n using Nat.strongRecOn with
  | _ n ih =>
    by_cases h : n < 128
    · rw [putV_small h, valV, valV, byte_of (by omega)]; omega
    · rw [putV_more h, valV, ih (n / 128) (by omega), byte_of (by omega)]; omega
theorem putV_pos (n : Nat) : 0 < (putV n).length := by
  by_cases h : n < 128
  · rw [putV_small h]; simp
  · rw [putV_more h]; simp
theorem putV_len : ∀ (k n : Nat), n < 128 ^ (k + 1) → (putV n).length ≤ k + 1
  | 0, n, h => by rw [putV_small (by simpa using h)]; simp
  | k + 1, n, h => by
    by_cases hn : n < 128
    · rw [putV_small hn]; simp
    · rw [putV_more hn, List.length_cons]
      have := putV_len k (n / 128) (by rw [Nat.div_lt_iff_lt_mul (by decide)]; rw [Nat.pow_succ] at h; exact h)
      omega
theorem putV_ten {n : Nat} (h : n < 18446744073709551616) : (putV n).length ≤ 10 := putV_len 9 n (Nat.lt_trans h (by decide))
theorem put_front {n m : Nat} {r r' : List UInt8} (h : putV n ++ r = putV m ++ r') : n = m ∧ r = r' := by
  induction n using Nat.strongRecOn generalizing m with
  | _ n ih =>
    by_cases hn : n < 128 <;> by_cases hm : m < 128
    · rw [putV_small hn, putV_small hm] at h
      simp only [List.cons_append, List.nil_append, List.cons.injEq] at h
      have := congrArg UInt8.toNat h.1
      rw [byte_of (by omega), byte_of (by omega)] at this
      exact ⟨this, h.2⟩
    · rw [putV_small hn, putV_more hm] at h
      simp only [List.cons_append, List.nil_append, List.cons.injEq] at h
      have := congrArg UInt8.toNat h.1
      rw [byte_of (by omega), byte_of (by omega)] at this
      omega
    · rw [putV_more hn, putV_small hm] at h
      simp only [List.cons_append, List.nil_append, List.cons.injEq] at h
      have := congrArg UInt8.toNat h.1
      rw [byte_of (by omega), byte_of (by omega)] at this
      omega
    · rw [putV_more hn, putV_more hm] at h
      simp only [List.cons_append, List.cons.injEq] at h
      have e := congrArg UInt8.toNat h.1
      rw [byte_of (by omega), byte_of (by omega)] at e
      obtain ⟨e2, e3⟩ := ih (n / 128) (by omega) h.2
      exact ⟨by omega, e3⟩
/-- The bytes of n stand at the front of D. -/
def Stands (D : List UInt8) (n : Nat) : Prop := n < 18446744073709551616 ∧ ∃ r, D = putV n ++ r
theorem Stands.one {D : List UInt8} {n m : Nat} (h : Stands D n) (h' : Stands D m) : n = m := by
  obtain ⟨_, r, e⟩ := h
  obtain ⟨_, r', e'⟩ := h'
  exact (put_front (e.symm.trans e')).1
/-- Where the first byte below 128 stands at place k, whatever stands there is told by the first k + 1 bytes. -/
theorem stands_at : ∀ {k : Nat} {D : List UInt8} {m : Nat}, (∃ r, D = putV m ++ r) → ∀ (hk : k < D.length), (∀ i (h : i < k), 128 ≤ (D[i]'(by omega)).toNat) → (D[k]'hk).toNat < 128 → putV m = D.take (k + 1) ∧ m = valV (D.take (k + 1))
  | k, D, m, ⟨r, e⟩, hk, hb, hs => by
    have key : putV m = D.take (k + 1) := by
      induction k generalizing D m with
      | zero =>
        by_cases hm : m < 128
        · rw [putV_small hm] at e ⊢; rw [e]; simp
        · exfalso
          rw [putV_more hm] at e
          subst e
          simp only [List.cons_append, List.getElem_cons_zero] at hs
          rw [byte_of (by omega)] at hs
          omega
      | succ k ih =>
        by_cases hm : m < 128
        · exfalso
          rw [putV_small hm] at e
          have h0 := hb 0 (by omega)
          subst e
          simp only [List.cons_append, List.getElem_cons_zero] at h0
          rw [byte_of (by omega)] at h0
          omega
        · rw [putV_more hm] at e ⊢
          subst e
          simp only [List.cons_append, List.take_succ_cons, List.cons.injEq, true_and]
          refine ih _ _ rfl (by simpa using hk) (fun i hi => ?_) (by simpa using hs)
          have := hb (i + 1) (by omega)
          simpa using this
    exact ⟨key, by rw [← key, valV_put]⟩
/-- What stands there ends within ten bytes. -/
theorem stands_end {D : List UInt8} {m : Nat} (h : Stands D m) : ∃ (k : Nat) (hk : k < D.length), k < 10 ∧ (∀ i (h : i < k), 128 ≤ (D[i]'(by omega)).toNat) ∧ (D[k]'hk).toNat < 128 := by
  obtain ⟨hm, r, e⟩ := h
  have key : ∀ (n : Nat) (D : List UInt8), D = putV n ++ r → ∃ (k : Nat) (hk : k < D.length), k + 1 = (putV n).length ∧ (∀ i (h : i < k), 128 ≤ (D[i]'(by omega)).toNat) ∧ (D[k]'hk).toNat < 128 := by
    intro n
    induction n using Nat.strongRecOn with
    | _ n ih =>
      intro D e
      by_cases hn : n < 128
      · rw [putV_small hn] at e ⊢
        subst e
        exact ⟨0, by simp, rfl, fun i hi => by omega, by simp only [List.cons_append, List.getElem_cons_zero]; rw [byte_of (by omega)]; exact hn⟩
      · obtain ⟨k, hk, hl, hb, hs⟩ := ih (n / 128) (by omega) _ rfl
        rw [putV_more hn] at e ⊢
        subst e
        refine ⟨k + 1, by simpa using hk, by simp [hl], fun i hi => ?_, by simpa using hs⟩
        cases i with
        | zero => simp only [List.cons_append, List.getElem_cons_zero]; rw [byte_of (by omega)]; omega
        | succ i => simpa using hb i (by omega)
  obtain ⟨k, hk, hl, hb, hs⟩ := key m D e
  exact ⟨k, hk, by have := putV_ten hm; omega, hb, hs⟩
theorem valV_snoc (l : List UInt8) (b : UInt8) : valV (l ++ [b]) = valV l + (b.toNat % 128) * 128 ^ l.length := by
  induction l with
  | nil => simp [valV]
  | cons c l ih =>
    simp only [List.cons_append, valV, ih, List.length_cons, Nat.pow_succ, Nat.mul_add, Nat.add_assoc]
    congr 2
    rw [Nat.mul_comm 128, Nat.mul_assoc]
theorem valV_lt (l : List UInt8) : valV l < 128 ^ l.length := by
  induction l with
  | nil => simp [valV]
  | cons c l ih =>
    simp only [valV, List.length_cons, Nat.pow_succ]
    have : c.toNat % 128 < 128 := Nat.mod_lt _ (by decide)
    omega
theorem valV_take {D : List UInt8} {k : Nat} (hk : k < D.length) : valV (D.take (k + 1)) = valV (D.take k) + ((D[k]'hk).toNat % 128) * 128 ^ k := by
  rw [List.take_succ_eq_append_getElem hk, valV_snoc, List.length_take, Nat.min_eq_left (by omega)]
/-- Bytes of seven bits, each but the last of 128 at least and the last not 0 where there are several, are those of their number. -/
theorem put_val : ∀ {l : List UInt8} (h : 0 < l.length), (∀ i (hi : i + 1 < l.length), 128 ≤ (l[i]'(by omega)).toNat) → (l[l.length - 1]'(by omega)).toNat < 128 → (1 < l.length → 0 < (l[l.length - 1]'(by omega)).toNat) → putV (valV l) = l
  | [], h, _, _, _ => by simp at h
  | [b], _, _, hs, _ => by
    have hs' : b.toNat < 128 := by simpa using hs
    rw [valV, valV, Nat.mul_zero, Nat.add_zero, Nat.mod_eq_of_lt hs', putV_small hs']
    simp
  | b :: c :: l, _, hb, hs, hz => by
    have h0 : 128 ≤ b.toNat := by have := hb 0 (by simp); simpa using this
    have hlt := b.toNat_lt
    have hr := put_val (l := c :: l) (by simp) (fun i hi => by have := hb (i + 1) (by simpa using hi); simpa using this) (by simpa using hs) (fun _ => by have := hz (by simp); simpa using this)
    have hpos : 0 < valV (c :: l) := by
      have hl : ∀ (q : List UInt8) (hq : 0 < q.length), 0 < (q[q.length - 1]'(by omega)).toNat % 128 → 0 < valV q := by
        intro q
        induction q with
        | nil => intro hq; simp at hq
        | cons x q ih =>
          intro _ hx
          cases q with
          | nil => simp only [valV]; simpa using hx
          | cons y q =>
            have := ih (by simp) (by simpa using hx)
            simp only [valV] at this ⊢
            omega
      refine hl (c :: l) (by simp) ?_
      have e1 := hz (by simp)
      have e2 := hs
      simp only [List.length_cons, Nat.add_sub_cancel, List.getElem_cons_succ] at e1 e2 ⊢
      rw [Nat.mod_eq_of_lt e2]; exact e1
    rw [valV, putV_more (by omega)]
    have e1 : (b.toNat % 128 + 128 * valV (c :: l)) / 128 = valV (c :: l) := by omega
    have e2 : (b.toNat % 128 + 128 * valV (c :: l)) % 128 + 128 = b.toNat := by omega
    rw [e1, e2, hr]
    simp

/-- A number with its sign laid in the lowest bit. -/
def zigN (z : Int) : Nat := if 0 ≤ z then (2 * z).toNat else (-(2 * z) - 1).toNat
def zagI (u : Nat) : Int := if u % 2 = 0 then (u / 2 : Nat) else -((u / 2 : Nat) : Int) - 1
def In64 (z : Int) : Prop := -9223372036854775808 ≤ z ∧ z ≤ 9223372036854775807
theorem zig_lt {z : Int} (h : In64 z) : zigN z < 18446744073709551616 := by unfold zigN; unfold In64 at h; split <;> omega
theorem zag_in {u : Nat} (h : u < 18446744073709551616) : In64 (zagI u) := by unfold zagI In64; split <;> omega
theorem zag_zig (z : Int) : zagI (zigN z) = z := by unfold zagI zigN; split <;> split <;> omega
theorem zig_zag (u : Nat) : zigN (zagI u) = u := by unfold zagI zigN; split <;> split <;> omega

/-- Numbers in the bounds of an int, what is beyond going round. -/
def w64 (n : Int) : Int := (n + 9223372036854775808) % 18446744073709551616 - 9223372036854775808
theorem w64_in (n : Int) : In64 (w64 n) := by unfold In64 w64; omega
theorem w64_id {n : Int} (h : In64 n) : w64 n = n := by unfold In64 at h; unfold w64; omega

/-- The bytes of the further numbers of a list, by the last one and what it differed. -/
def encR : Int → Int → List Int → List UInt8
  | _, _, [] => []
  | last, step, n :: r => putV (zigN (w64 (w64 (n - last) - step))) ++ encR n (w64 (n - last)) r
def encL : List Int → List UInt8
  | [] => putV 0
  | n :: r => putV (r.length + 1) ++ (putV (zigN n) ++ encR n 0 r)
theorem encR_front : ∀ {l l' : List Int} {last step : Int} {r r' : List UInt8}, l.length = l'.length → (∀ n ∈ l, In64 n) → (∀ n ∈ l', In64 n) → encR last step l ++ r = encR last step l' ++ r' → l = l' ∧ r = r'
  | [], [], _, _, _, _, _, _, _, h => ⟨rfl, h⟩
  | [], _ :: _, _, _, _, _, h, _, _, _ => by simp at h
  | _ :: _, [], _, _, _, _, h, _, _, _ => by simp at h
  | n :: l, m :: l', last, step, r, r', hl, hi, hj, h => by
    simp only [encR, List.append_assoc] at h
    obtain ⟨e1, e2⟩ := put_front h
    have e3 := congrArg zagI e1
    rw [zag_zig, zag_zig] at e3
    have a := hi n (List.mem_cons_self ..)
    have b := hj m (List.mem_cons_self ..)
    have e4 : n = m := by unfold In64 at a b; unfold w64 at e3; omega
    subst e4
    obtain ⟨e5, e6⟩ := encR_front (by simpa using hl) (fun x hx => hi x (List.mem_cons_of_mem _ hx)) (fun x hx => hj x (List.mem_cons_of_mem _ hx)) e2
    exact ⟨by rw [e5], e6⟩
theorem encL_front {l l' : List Int} {r r' : List UInt8} (hi : ∀ n ∈ l, In64 n) (hj : ∀ n ∈ l', In64 n) (h : encL l ++ r = encL l' ++ r') : l = l' ∧ r = r' := by
  cases l with
  | nil =>
    cases l' with
    | nil => exact ⟨rfl, List.append_cancel_left h⟩
    | cons m l' => simp only [encL, List.append_assoc] at h; have := (put_front h).1; omega
  | cons n l =>
    cases l' with
    | nil => simp only [encL, List.append_assoc] at h; have := (put_front h).1; omega
    | cons m l' =>
      simp only [encL, List.append_assoc] at h
      obtain ⟨e1, e2⟩ := put_front h
      obtain ⟨e3, e4⟩ := put_front e2
      have e5 : n = m := by have := congrArg zagI e3; rwa [zag_zig, zag_zig] at this
      subst e5
      obtain ⟨e6, e7⟩ := encR_front (by omega) (fun x hx => hi x (List.mem_cons_of_mem _ hx)) (fun x hx => hj x (List.mem_cons_of_mem _ hx)) e4
      exact ⟨by rw [e6], e7⟩
theorem encL_one {l l' : List Int} (hi : ∀ n ∈ l, In64 n) (hj : ∀ n ∈ l', In64 n) (h : encL l = encL l') : l = l' := (encL_front (r := []) (r' := []) hi hj (by rw [h])).1
theorem encR_snoc : ∀ (l : List Int) (last step n : Int), encR last step (l ++ [n]) = encR last step l ++ putV (zigN (w64 (w64 (n - (last :: l).getLast (by simp)) - (step :: (List.zipWith (fun a b => w64 (b - a)) (last :: l) l)).getLast (by simp))))
  | [], last, step, n => by simp [encR]
  | m :: l, last, step, n => by
    have ih := encR_snoc l m (w64 (m - last)) n
    simp only [List.cons_append, encR, List.append_assoc, ih]
    congr 5
theorem encR_len : ∀ (l : List Int) (last step : Int), (encR last step l).length ≤ 10 * l.length
  | [], _, _ => by simp [encR]
  | n :: l, last, step => by
    have h1 := encR_len l n (w64 (n - last))
    have h2 := putV_ten (zig_lt (w64_in (w64 (n - last) - step)))
    simp only [encR, List.length_append, List.length_cons]
    omega
theorem encL_len {l : List Int} (h : ∀ n ∈ l, In64 n) (hl : l.length < 18446744073709551616) : (encL l).length ≤ 10 * (l.length + 1) := by
  cases l with
  | nil => simp only [encL]; exact putV_ten (by decide)
  | cons n l =>
    have h1 := encR_len l n 0
    have h2 := putV_ten (zig_lt (h n (List.mem_cons_self ..)))
    have h3 := putV_ten hl
    simp only [encL, List.length_append, List.length_cons] at h3 ⊢
    omega
end Go.Proofs.Yteiefngamccapaa
