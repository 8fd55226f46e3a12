/- Mathematics of lists of numbers as bytes: numbers one behind another, a list by what its numbers differ, and back. No program is spoken of. -/
import Derived.Test.YteiefngamccapaaRvMath
namespace Go.Proofs.Yteiefngamccapaa

/-- The bytes of numbers, one behind another. -/
def byS (us : List Nat) : List UInt8 := (us.map putV).flatten
theorem byS_nil : byS [] = [] := rfl
theorem byS_cons (u : Nat) (us : List Nat) : byS (u :: us) = putV u ++ byS us := by simp [byS]
theorem byS_append (us vs : List Nat) : byS (us ++ vs) = byS us ++ byS vs := by simp [byS]
theorem byS_one (u : Nat) : byS [u] = putV u := by simp [byS]
theorem byS_front : ∀ {us vs : List Nat} {r r' : List UInt8}, us.length = vs.length → byS us ++ r = byS vs ++ r' → us = vs ∧ r = r'
  | [], [], _, _, _, h => ⟨rfl, h⟩
  | [], _ :: _, _, _, h, _ => by simp at h
  | _ :: _, [], _, _, h, _ => by simp at h
  | u :: us, v :: vs, r, r', hl, h => by
    rw [byS_cons, byS_cons, List.append_assoc, List.append_assoc] at h
    obtain ⟨e1, e2⟩ := put_front h
    obtain ⟨e3, e4⟩ := byS_front (by simpa using hl) e2
    exact ⟨by rw [e1, e3], e4⟩
def Fit64 (us : List Nat) : Prop := ∀ u ∈ us, u < 18446744073709551616
theorem byS_len : ∀ {us : List Nat}, Fit64 us → (byS us).length ≤ 10 * us.length
  | [], _ => by simp [byS]
  | u :: us, h => by
    have h1 := putV_ten (h u (List.mem_cons_self ..))
    have h2 := byS_len (us := us) (fun x hx => h x (List.mem_cons_of_mem _ hx))
    rw [byS_cons, List.length_append, List.length_cons]
    omega
/-- How many they are, and they. -/
def whole (us : List Nat) : List UInt8 := putV us.length ++ byS us
theorem whole_one {us vs : List Nat} (h : whole us = whole vs) : us = vs := by
  unfold whole at h
  obtain ⟨e1, e2⟩ := put_front h
  exact (byS_front (r := []) (r' := []) e1 (by rw [e2])).1
/-- Bytes that are those of a list of at most 60 numbers. -/
def Told (D : List UInt8) (us : List Nat) : Prop := D = whole us ∧ us.length ≤ 60 ∧ Fit64 us
theorem Told.one {D : List UInt8} {us vs : List Nat} (h : Told D us) (h' : Told D vs) : us = vs := whole_one (h.1.symm.trans h'.1)

/-- Where a reader stands: it has read us, and stands at place a. -/
def At (D : List UInt8) (m : Nat) (us : List Nat) (a : Nat) : Prop := D = putV m ++ (byS us ++ D.drop a) ∧ a = (putV m).length + (byS us).length ∧ Fit64 us
theorem at_first {D : List UInt8} {m : Nat} (h : Stands D m) : At D m [] (putV m).length := by
  obtain ⟨_, r, e⟩ := h
  refine ⟨?_, by simp [byS], fun u hu => by simp at hu⟩
  rw [byS_nil, List.nil_append]
  conv => rhs; rw [e, List.drop_left]
  exact e
theorem at_next {D : List UInt8} {m u a : Nat} {us : List Nat} (h : At D m us a) (hu : Stands (D.drop a) u) : At D m (us ++ [u]) (a + (putV u).length) := by
  obtain ⟨h1, h2, h3⟩ := h
  obtain ⟨hl, r, e⟩ := hu
  have e2 : D.drop (a + (putV u).length) = r := by rw [← List.drop_drop, e, List.drop_left]
  refine ⟨?_, ?_, ?_⟩
  · rw [e2, byS_append, byS_one, List.append_assoc, ← e]; exact h1
  · rw [byS_append, byS_one, List.length_append]; omega
  · intro x hx
    rcases List.mem_append.1 hx with hx | hx
    · exact h3 x hx
    · rw [List.mem_singleton.1 hx]; exact hl
theorem at_told {D : List UInt8} {m a : Nat} {us : List Nat} (h : At D m us a) (hm : us.length = m) (h60 : m ≤ 60) (ha : D.length ≤ a) : Told D us := by
  obtain ⟨h1, _, h3⟩ := h
  refine ⟨?_, by omega, h3⟩
  rw [List.drop_eq_nil_of_le ha, List.append_nil] at h1
  unfold whole
  rw [hm]; exact h1
/-- What is told there begins as was read. -/
theorem told_split {D : List UInt8} {m a : Nat} {us vs : List Nat} (h : At D m us a) (hv : Told D vs) (hle : us.length ≤ m) : vs.length = m ∧ vs.take us.length = us ∧ D.drop a = byS (vs.drop us.length) := by
  obtain ⟨h1, _, _⟩ := h
  obtain ⟨k1, _, _⟩ := hv
  have e := h1.symm.trans k1
  unfold whole at e
  obtain ⟨e1, e2⟩ := put_front e
  have e3 : byS vs = byS (vs.take us.length) ++ byS (vs.drop us.length) := by rw [← byS_append, List.take_append_drop]
  rw [e3] at e2
  obtain ⟨e4, e5⟩ := byS_front (by rw [List.length_take]; omega) e2
  exact ⟨e1.symm, e4.symm, e5⟩
theorem at_none {D : List UInt8} {m a : Nat} {us : List Nat} (h : At D m us a) (hle : us.length < m) (hr : readV (D.drop a) = none) : ∀ vs, ¬ Told D vs := by
  intro vs hv
  obtain ⟨e1, e2, e3⟩ := told_split h hv (by omega)
  have hlt : us.length < vs.length := by omega
  rw [List.drop_eq_getElem_cons hlt, byS_cons] at e3
  have := readV_some (D := D.drop a) (m := vs[us.length]) ⟨hv.2.2 _ (List.getElem_mem hlt), _, e3⟩
  rw [hr] at this; cases this
theorem at_more {D : List UInt8} {m a : Nat} {us : List Nat} (h : At D m us a) (hm : us.length = m) (ha : a < D.length) : ∀ vs, ¬ Told D vs := by
  intro vs hv
  obtain ⟨e1, e2, e3⟩ := told_split h hv (by omega)
  rw [hm, ← e1, List.drop_length, byS_nil] at e3
  have := congrArg List.length e3
  rw [List.length_drop] at this
  simp at this; omega
theorem none_first {D : List UInt8} (h : readV D = none) : ∀ vs, ¬ Told D vs := by
  intro vs hv
  have := readV_some (D := D) (m := vs.length) ⟨by have := hv.2.1; omega, byS vs, hv.1⟩
  rw [h] at this; cases this
theorem none_many {D : List UInt8} {m : Nat} (h : readV D = some m) (hm : 60 < m) : ∀ vs, ¬ Told D vs := by
  intro vs hv
  have := readV_some (D := D) (m := vs.length) ⟨by have := hv.2.1; omega, byS vs, hv.1⟩
  rw [h] at this
  injection this with this
  have := hv.2.1
  omega

/-- Bytes that begin with those of a list of at most 60 numbers. -/
def Fr (D : List UInt8) (us : List Nat) : Prop := (∃ r, D = whole us ++ r) ∧ us.length ≤ 60 ∧ Fit64 us
theorem Fr.of {D : List UInt8} {us : List Nat} (h : Told D us) : Fr D us := ⟨⟨[], by rw [List.append_nil]; exact h.1⟩, h.2⟩
theorem fr_split {D : List UInt8} {m a : Nat} {us vs : List Nat} (h : At D m us a) (hv : Fr D vs) (hle : us.length ≤ m) : vs.length = m ∧ vs.take us.length = us ∧ ∃ r, D.drop a = byS (vs.drop us.length) ++ r := by
  obtain ⟨h1, _, _⟩ := h
  obtain ⟨⟨r, k1⟩, _, _⟩ := hv
  have e := h1.symm.trans k1
  unfold whole at e
  rw [List.append_assoc] at e
  obtain ⟨e1, e2⟩ := put_front e
  have e3 : byS vs = byS (vs.take us.length) ++ byS (vs.drop us.length) := by rw [← byS_append, List.take_append_drop]
  rw [e3, List.append_assoc] at e2
  obtain ⟨e4, e5⟩ := byS_front (by rw [List.length_take]; omega) e2
  exact ⟨e1.symm, e4.symm, r, e5⟩
theorem fr_none {D : List UInt8} {m a : Nat} {us : List Nat} (h : At D m us a) (hle : us.length < m) (hr : readV (D.drop a) = none) : ∀ vs, ¬ Fr D vs := by
  intro vs hv
  obtain ⟨e1, e2, r, e3⟩ := fr_split h hv (by omega)
  have hlt : us.length < vs.length := by omega
  rw [List.drop_eq_getElem_cons hlt, byS_cons, List.append_assoc] at e3
  have := readV_some (D := D.drop a) (m := vs[us.length]) ⟨hv.2.2 _ (List.getElem_mem hlt), _, e3⟩
  rw [hr] at this; cases this
theorem fr_first {D : List UInt8} (h : readV D = none) : ∀ vs, ¬ Fr D vs := by
  rintro vs ⟨⟨r, e⟩, h60, hf⟩
  unfold whole at e
  rw [List.append_assoc] at e
  have := readV_some (D := D) (m := vs.length) ⟨by omega, _, e⟩
  rw [h] at this; cases this
theorem fr_many {D : List UInt8} {m : Nat} (h : readV D = some m) (hm : 60 < m) : ∀ vs, ¬ Fr D vs := by
  rintro vs ⟨⟨r, e⟩, h60, hf⟩
  unfold whole at e
  rw [List.append_assoc] at e
  have := readV_some (D := D) (m := vs.length) ⟨by omega, _, e⟩
  rw [h] at this
  injection this with this
  omega

/-- What a number differs from the one ahead, less what that one differed. -/
def ss (x : Nat → Int) (i : Nat) : Int := if i ≤ 1 then 0 else w64 (x (i - 1) - x (i - 2))
def dd (x : Nat → Int) (i : Nat) : Int := if i = 0 then x 0 else w64 (w64 (x i - x (i - 1)) - ss x i)
def at0 (l : List Int) (i : Nat) : Int := l.getD i 0
def code (l : List Int) : List Nat := (List.range l.length).map fun i => zigN (dd (at0 l) i)
/-- Steps and numbers made again. -/
def stF (z : Nat → Int) : Nat → Int
  | 0 => 0
  | i + 1 => w64 (stF z i + z (i + 1))
def laF (z : Nat → Int) : Nat → Int
  | 0 => z 0
  | i + 1 => w64 (laF z i + stF z (i + 1))
theorem stF_succ (z : Nat → Int) (i : Nat) : stF z (i + 1) = w64 (stF z i + z (i + 1)) := by rw [stF]
theorem laF_succ (z : Nat → Int) (i : Nat) : laF z (i + 1) = w64 (laF z i + stF z (i + 1)) := by rw [laF]
theorem laF_zero (z : Nat → Int) : laF z 0 = z 0 := by rw [laF]
theorem stF_zero (z : Nat → Int) : stF z 0 = 0 := by rw [stF]
def zagL (us : List Nat) (i : Nat) : Int := zagI (us.getD i 0)
def decode (us : List Nat) : List Int := (List.range us.length).map (laF (zagL us))
theorem code_len (l : List Int) : (code l).length = l.length := by simp [code]
theorem decode_len (us : List Nat) : (decode us).length = us.length := by simp [decode]
theorem dd_in {x : Nat → Int} (h : In64 (x 0)) (i : Nat) : In64 (dd x i) := by
  unfold dd; split
  · exact h
  · exact w64_in _
theorem at0_in {l : List Int} (h : ∀ x ∈ l, In64 x) (i : Nat) : In64 (at0 l i) := by
  unfold at0
  by_cases hi : i < l.length
  · have : l.getD i 0 = l[i] := by simp [List.getD, hi]
    rw [this]; exact h _ (List.getElem_mem hi)
  · have : l.getD i 0 = 0 := by simp [List.getD, Nat.le_of_not_lt hi]
    rw [this]; unfold In64; omega
theorem code_fit {l : List Int} (h : ∀ x ∈ l, In64 x) : Fit64 (code l) := by
  intro u hu
  simp only [code, List.mem_map, List.mem_range] at hu
  obtain ⟨i, _, rfl⟩ := hu
  exact zig_lt (dd_in (at0_in h 0) i)
theorem decode_in {us : List Nat} (h : Fit64 us) : ∀ x ∈ decode us, In64 x := by
  intro x hx
  simp only [decode, List.mem_map, List.mem_range] at hx
  obtain ⟨i, hi, rfl⟩ := hx
  cases i with
  | zero =>
    show In64 (zagI (us.getD 0 0))
    have : us.getD 0 0 = us[0] := by simp [List.getD, hi]
    rw [this]
    exact zag_in (h _ (List.getElem_mem hi))
  | succ i => exact w64_in _
theorem la_dd {x : Nat → Int} (hx : ∀ i, In64 (x i)) : ∀ i, laF (dd x) i = x i ∧ (0 < i → stF (dd x) i = w64 (x i - x (i - 1)))
  | 0 => ⟨by simp [laF, dd], fun h => by omega⟩
  | i + 1 => by
    obtain ⟨h1, h2⟩ := la_dd hx i
    have hs : stF (dd x) (i + 1) = w64 (x (i + 1) - x i) := by
      show w64 (stF (dd x) i + dd x (i + 1)) = _
      cases i with
      | zero =>
        simp only [stF, dd, ss]
        rw [if_neg (by omega), if_pos (by omega)]
        simp only [Nat.add_sub_cancel]
        have := w64_in (x 1 - x 0)
        unfold In64 at this
        unfold w64 at this ⊢
        omega
      | succ i =>
        rw [h2 (by omega)]
        simp only [dd, ss]
        rw [if_neg (by omega), if_neg (by omega)]
        simp only [Nat.add_sub_cancel, show i + 1 + 1 - 2 = i by omega]
        unfold w64
        omega
    refine ⟨?_, fun _ => by rw [hs]; rfl⟩
    show w64 (laF (dd x) i + stF (dd x) (i + 1)) = _
    rw [hs, h1]
    have a := hx (i + 1)
    have b := hx i
    unfold In64 at a b
    unfold w64
    omega
theorem getD_range_map {α : Type} (f : Nat → α) (d : α) (n i : Nat) (h : i < n) : ((List.range n).map f).getD i d = f i := by simp [List.getD, h]
theorem decode_code {l : List Int} (h : ∀ x ∈ l, In64 x) : decode (code l) = l := by
  have key : ∀ i, i < l.length → laF (zagL (code l)) i = at0 l i := by
    intro i hi
    have e : ∀ j, j ≤ i → laF (zagL (code l)) j = laF (dd (at0 l)) j ∧ stF (zagL (code l)) j = stF (dd (at0 l)) j := by
      have hz : ∀ j, j ≤ i → zagL (code l) j = dd (at0 l) j := fun j hj => by
        unfold zagL code
        rw [getD_range_map _ _ _ _ (by omega), zag_zig]
      intro j
      induction j with
      | zero => intro hj; rw [laF_zero, laF_zero, stF_zero, stF_zero]; exact ⟨hz 0 hj, rfl⟩
      | succ j ih =>
        intro hj
        obtain ⟨a, b⟩ := ih (by omega)
        have hst : stF (zagL (code l)) (j + 1) = stF (dd (at0 l)) (j + 1) := by
          rw [stF_succ, stF_succ, b, hz (j + 1) hj]
        refine ⟨?_, hst⟩
        rw [laF_succ, laF_succ, a, hst]
    rw [(e i (Nat.le_refl _)).1]
    exact (la_dd (at0_in h) i).1
  apply List.ext_getElem
  · rw [decode_len, code_len]
  · intro i h1 h2
    simp only [decode, List.getElem_map, List.getElem_range]
    rw [key i h2]
    simp [at0, List.getD, h2]
theorem dd_la {z : Nat → Int} (hz : ∀ i, In64 (z i)) (i : Nat) : dd (laF z) i = z i := by
  cases i with
  | zero => rfl
  | succ i =>
    have hst : ∀ j, In64 (stF z j) := fun j => by
      cases j with
      | zero => unfold In64 stF; omega
      | succ j => exact w64_in _
    have hd : ∀ j, w64 (laF z (j + 1) - laF z j) = stF z (j + 1) := fun j => by
      show w64 (w64 (laF z j + stF z (j + 1)) - laF z j) = _
      have a := hst (j + 1)
      unfold In64 at a
      unfold w64
      omega
    unfold dd
    rw [if_neg (by omega)]
    simp only [Nat.add_sub_cancel]
    rw [hd i]
    have a := hz (i + 1)
    unfold In64 at a
    cases i with
    | zero =>
      simp only [ss]
      rw [if_pos (by omega)]
      show w64 (w64 (0 + z 1) - 0) = z 1
      simp only [Nat.zero_add] at a
      unfold w64
      omega
    | succ i =>
      simp only [ss]
      rw [if_neg (by omega), show i + 1 + 1 - 1 = i + 1 by omega, show i + 1 + 1 - 2 = i by omega, hd i]
      show w64 (w64 (stF z (i + 1) + z (i + 1 + 1)) - stF z (i + 1)) = _
      unfold w64
      omega
theorem zagL_in {us : List Nat} (h : Fit64 us) (i : Nat) : In64 (zagL us i) := by
  unfold zagL
  by_cases hi : i < us.length
  · have : us.getD i 0 = us[i] := by simp [List.getD, hi]
    rw [this]; exact zag_in (h _ (List.getElem_mem hi))
  · have : us.getD i 0 = 0 := by simp [List.getD, Nat.le_of_not_lt hi]
    rw [this]; unfold zagI In64; simp
theorem dd_congr {x y : Nat → Int} {n : Nat} (h : ∀ i, i < n → x i = y i) : ∀ i, i < n → dd x i = dd y i := by
  intro i hi
  unfold dd ss
  by_cases h0 : i = 0
  · rw [if_pos h0, if_pos h0, h 0 (by omega)]
  · rw [if_neg h0, if_neg h0, h i hi, h (i - 1) (by omega)]
    by_cases h1 : i ≤ 1
    · rw [if_pos h1, if_pos h1]
    · rw [if_neg h1, if_neg h1, h (i - 2) (by omega)]
theorem code_decode {us : List Nat} (h : Fit64 us) : code (decode us) = us := by
  apply List.ext_getElem
  · rw [code_len, decode_len]
  · intro i h1 h2
    simp only [code, List.getElem_map, List.getElem_range]
    have e := dd_congr (x := at0 (decode us)) (y := laF (zagL us)) (n := us.length) (fun j hj => by unfold at0 decode; rw [getD_range_map _ _ _ _ hj]) i h2
    rw [e, dd_la (zagL_in h)]
    unfold zagL
    rw [zig_zag]
    simp [List.getD, h2]
/-- The bytes of a list. -/
def enc (l : List Int) : List UInt8 := whole (code l)
def encK (l : List Int) (k : Nat) : List UInt8 := putV l.length ++ byS ((code l).take k)
theorem encK_zero (l : List Int) : encK l 0 = putV l.length := by simp [encK, byS_nil]
theorem encK_all (l : List Int) : encK l l.length = enc l := by unfold encK enc whole; rw [← code_len l, List.take_length]
theorem code_at {l : List Int} {k : Nat} (hk : k < l.length) : (code l)[k]'(by rw [code_len]; exact hk) = zigN (dd (at0 l) k) := by simp [code]
theorem encK_succ {l : List Int} {k : Nat} (hk : k < l.length) : encK l (k + 1) = encK l k ++ putV (zigN (dd (at0 l) k)) := by
  unfold encK
  rw [List.take_succ_eq_append_getElem (by rw [code_len]; exact hk), byS_append, byS_one, code_at hk, List.append_assoc]
theorem encK_len {l : List Int} (h : ∀ x ∈ l, In64 x) (hl : l.length ≤ 1048576) (k : Nat) : (encK l k).length ≤ 10 + 10 * k := by
  unfold encK
  have h1 := putV_ten (n := l.length) (by omega)
  have h2 := byS_len (us := (code l).take k) (fun u hu => code_fit h u (List.mem_of_mem_take hu))
  have h3 := List.length_take_le k (code l)
  rw [List.length_append]
  omega
end Go.Proofs.Yteiefngamccapaa
