/- Mathematics of chunks, ahead of chapter 5: values by the bits that differ from the one ahead, turned round; samples as bytes, and back. No program is spoken of. -/
import Derived.Test.YteiefngamccapaaLiMath
namespace Go.Proofs.Yteiefngamccapaa

theorem xor_lt64 {a b : Nat} (ha : a < 18446744073709551616) (hb : b < 18446744073709551616) : a ^^^ b < 18446744073709551616 := by
  have e : (18446744073709551616 : Nat) = 2 ^ 64 := by decide
  rw [e] at ha hb ⊢
  exact Nat.xor_lt_two_pow ha hb
/-- The bits in which each differs from the one ahead, turned round. -/
def xc : Nat → List Nat → List Nat
  | _, [] => []
  | p, b :: r => flipN (b ^^^ p) :: xc b r
def xd : Nat → List Nat → List Nat
  | _, [] => []
  | p, u :: r => (p ^^^ flipN u) :: xd (p ^^^ flipN u) r
theorem xc_len : ∀ (p : Nat) (l : List Nat), (xc p l).length = l.length
  | _, [] => rfl
  | p, b :: r => by rw [xc, List.length_cons, List.length_cons, xc_len b r]
theorem xd_len : ∀ (p : Nat) (l : List Nat), (xd p l).length = l.length
  | _, [] => rfl
  | p, u :: r => by rw [xd, List.length_cons, List.length_cons, xd_len _ r]
theorem xc_fit : ∀ (p : Nat) (l : List Nat), Fit64 (xc p l)
  | _, [] => fun u hu => by simp [xc] at hu
  | p, b :: r => fun u hu => by
    rw [xc] at hu
    rcases List.mem_cons.1 hu with rfl | hu
    · exact flipN_lt _
    · exact xc_fit b r u hu
theorem xd_fit : ∀ {p : Nat} {l : List Nat}, p < 18446744073709551616 → Fit64 (xd p l)
  | _, [], _ => fun u hu => by simp [xd] at hu
  | p, b :: r, hp => fun u hu => by
    rw [xd] at hu
    have h1 := xor_lt64 hp (flipN_lt b)
    rcases List.mem_cons.1 hu with rfl | hu
    · exact h1
    · exact xd_fit h1 u hu
theorem xd_xc : ∀ {p : Nat} {l : List Nat}, p < 18446744073709551616 → Fit64 l → xd p (xc p l) = l
  | _, [], _, _ => rfl
  | p, b :: r, hp, hl => by
    have hb := hl b (List.mem_cons_self ..)
    have e : p ^^^ flipN (flipN (b ^^^ p)) = b := by
      rw [flipN_flip (xor_lt64 hb hp), Nat.xor_comm b p, ← Nat.xor_assoc, Nat.xor_self, Nat.zero_xor]
    rw [xc, xd, e, xd_xc hb (fun x hx => hl x (List.mem_cons_of_mem _ hx))]
theorem xc_xd : ∀ {p : Nat} {l : List Nat}, p < 18446744073709551616 → Fit64 l → xc p (xd p l) = l
  | _, [], _, _ => rfl
  | p, u :: r, hp, hl => by
    have hu := hl u (List.mem_cons_self ..)
    have e : flipN ((p ^^^ flipN u) ^^^ p) = u := by
      rw [Nat.xor_comm p, Nat.xor_assoc, Nat.xor_self, Nat.xor_zero, flipN_flip hu]
    rw [xd, xc, e, xc_xd (xor_lt64 hp (flipN_lt u)) (fun x hx => hl x (List.mem_cons_of_mem _ hx))]
/-- One value more. -/
theorem xc_snoc : ∀ (p : Nat) (l : List Nat) (b : Nat), xc p (l ++ [b]) = xc p l ++ [flipN (b ^^^ (p :: l).getLast (by simp))]
  | p, [], b => by simp [xc]
  | p, c :: r, b => by
    rw [List.cons_append, xc, xc, xc_snoc c r b, List.cons_append]
    have e : (p :: c :: r).getLast (by simp) = (c :: r).getLast (by simp) := List.getLast_cons (by simp)
    rw [e]
theorem xd_snoc : ∀ (p : Nat) (l : List Nat) (u : Nat), xd p (l ++ [u]) = xd p l ++ [(p :: xd p l).getLast (by simp) ^^^ flipN u]
  | p, [], u => by simp [xd]
  | p, c :: r, u => by
    rw [List.cons_append, xd, xd, xd_snoc _ r u, List.cons_append]
    have e : (p :: (p ^^^ flipN c) :: xd (p ^^^ flipN c) r).getLast (by simp) = ((p ^^^ flipN c) :: xd (p ^^^ flipN c) r).getLast (by simp) := List.getLast_cons (by simp)
    rw [e]

theorem whole_front {us vs : List Nat} {r r' : List UInt8} (h : whole us ++ r = whole vs ++ r') : us = vs ∧ r = r' := by
  unfold whole at h
  rw [List.append_assoc, List.append_assoc] at h
  obtain ⟨e1, e2⟩ := put_front h
  exact byS_front e1 e2
theorem enc_front {l l' : List Int} {r r' : List UInt8} (hl : ∀ x ∈ l, In64 x) (hl' : ∀ x ∈ l', In64 x) (h : enc l ++ r = enc l' ++ r') : l = l' ∧ r = r' := by
  obtain ⟨e1, e2⟩ := whole_front h
  have e3 := congrArg decode e1
  rw [decode_code hl, decode_code hl'] at e3
  exact ⟨e3, e2⟩

/-- A sample: its time, and its value's bits. -/
abbrev Smp := Int × Nat
def FitS (l : List Smp) : Prop := ∀ x ∈ l, In64 x.1 ∧ x.2 < 18446744073709551616
/-- The bytes of samples, of at least one. -/
def packB (l : List Smp) : List UInt8 := enc (l.map (·.1)) ++ byS (xc 0 (l.map (·.2)))
theorem fit_times {l : List Smp} (h : FitS l) : ∀ x ∈ l.map (·.1), In64 x := by
  intro x hx
  obtain ⟨y, hy, rfl⟩ := List.mem_map.1 hx
  exact (h y hy).1
theorem fit_vals {l : List Smp} (h : FitS l) : Fit64 (l.map (·.2)) := by
  intro x hx
  obtain ⟨y, hy, rfl⟩ := List.mem_map.1 hx
  exact (h y hy).2
theorem smp_ext : ∀ {l l' : List Smp}, l.map (·.1) = l'.map (·.1) → l.map (·.2) = l'.map (·.2) → l = l'
  | [], [], _, _ => rfl
  | [], _ :: _, h, _ => by simp at h
  | _ :: _, [], h, _ => by simp at h
  | (a, b) :: l, (a', b') :: l', h1, h2 => by
    simp only [List.map_cons, List.cons.injEq] at h1 h2
    obtain ⟨rfl, h1⟩ := h1
    obtain ⟨rfl, h2⟩ := h2
    rw [smp_ext h1 h2]
/-- Samples are told apart by their bytes. -/
theorem packB_one {l l' : List Smp} (h : FitS l) (h' : FitS l') (he : packB l = packB l') : l = l' := by
  unfold packB at he
  obtain ⟨e1, e2⟩ := enc_front (fit_times h) (fit_times h') he
  have hlen : l.length = l'.length := by have := congrArg List.length e1; simpa using this
  obtain ⟨e3, _⟩ := byS_front (us := xc 0 (l.map (·.2))) (vs := xc 0 (l'.map (·.2))) (r := []) (r' := []) (by rw [xc_len, xc_len, List.length_map, List.length_map, hlen]) (by rw [e2])
  have e4 := congrArg (xd 0) e3
  rw [xd_xc (by decide) (fit_vals h), xd_xc (by decide) (fit_vals h')] at e4
  exact smp_ext e1 e4
theorem packB_len {l : List Smp} (h : FitS l) (hl : l.length ≤ 1048576) : (packB l).length ≤ 10 + 20 * l.length := by
  unfold packB
  have h1 := encK_len (l := l.map (·.1)) (fit_times h) (by simpa using hl) (l.map (·.1)).length
  rw [encK_all] at h1
  have h2 := byS_len (us := xc 0 (l.map (·.2))) (xc_fit 0 _)
  rw [xc_len, List.length_map] at h2
  rw [List.length_map] at h1
  rw [List.length_append]
  omega

/-- Times within bounds that rise. -/
def goodS : List Smp → Bool
  | [] => true
  | [x] => decide (-1000000 ≤ x.1) && decide (x.1 ≤ 1000000)
  | x :: y :: r => decide (-1000000 ≤ x.1) && decide (x.1 < y.1) && goodS (y :: r)
theorem goodS_iff (l : List Smp) : goodS l = true ↔ ∀ i (hi : i < l.length), (-1000000 ≤ l[i].1 ∧ l[i].1 ≤ 1000000) ∧ (∀ hj : i + 1 < l.length, l[i].1 < l[i + 1].1) := by
  induction l with
  | nil => simp [goodS]
  | cons x r ih =>
    cases r with
    | nil =>
      simp only [goodS, Bool.and_eq_true, decide_eq_true_eq, List.length_cons, List.length_nil]
      constructor
      · intro h i hi
        obtain rfl : i = 0 := by omega
        exact ⟨h, fun hj => by omega⟩
      · intro h; exact (h 0 (by omega)).1
    | cons y r =>
      simp only [goodS, Bool.and_eq_true, decide_eq_true_eq]
      rw [ih]
      constructor
      · rintro ⟨⟨h1, h2⟩, h3⟩ i hi
        cases i with
        | zero =>
          have h4 := (h3 0 (by simp)).1
          simp only [List.getElem_cons_zero, List.getElem_cons_succ] at h4 ⊢
          exact ⟨⟨h1, by omega⟩, fun _ => h2⟩
        | succ i =>
          have h4 := h3 i (by simpa using hi)
          simpa using h4
      · intro h
        have h0 := h 0 (by simp)
        have h01 := h0.2 (by simp)
        simp only [List.getElem_cons_zero, List.getElem_cons_succ] at h0 h01
        refine ⟨⟨h0.1.1, h01⟩, fun i hi => ?_⟩
        have h4 := h (i + 1) (by simpa using hi)
        simpa using h4
theorem goodS_take {l : List Smp} (h : goodS l = true) (k : Nat) : goodS (l.take k) = true := by
  rw [goodS_iff] at h ⊢
  intro i hi
  rw [List.length_take] at hi
  have h1 := h i (by omega)
  refine ⟨by simpa using h1.1, fun hj => ?_⟩
  rw [List.length_take] at hj
  simpa using h1.2 (by omega)
theorem goodS_drop {l : List Smp} (h : goodS l = true) (k : Nat) : goodS (l.drop k) = true := by
  rw [goodS_iff] at h ⊢
  intro i hi
  rw [List.length_drop] at hi
  have h1 := h (k + i) (by omega)
  refine ⟨by simpa using h1.1, fun hj => ?_⟩
  rw [List.length_drop] at hj
  have := h1.2 (by omega)
  simpa [Nat.add_assoc] using this
/-- What a chunk holds: its bytes, how many they are, the first time and the last one. -/
def packC (l : List Smp) : List UInt8 × Int × Int × Int :=
  match l with
  | [] => ([], 0, 0, 0)
  | x :: r => (packB (x :: r), (x :: r).length, x.1, ((x :: r).getLast (by simp)).1)
theorem packC_one {l l' : List Smp} (h : FitS l) (h' : FitS l') (he : packC l = packC l') : l = l' := by
  cases l with
  | nil =>
    cases l' with
    | nil => rfl
    | cons x r =>
      have := congrArg (fun q => q.2.1) he
      simp [packC] at this; omega
  | cons x r =>
    cases l' with
    | nil =>
      have := congrArg (fun q => q.2.1) he
      simp [packC] at this; omega
    | cons y r' =>
      have := congrArg (fun q => q.1) he
      exact packB_one h h' this
end Go.Proofs.Yteiefngamccapaa
