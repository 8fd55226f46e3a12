/- Plain mathematics of reading a matcher back: its text tells it, and no other good matcher has that text. -/
import Derived.Test.YtpbcgfgjdimpmaaDoorMtext
namespace Go.Proofs.YtpbcgfgjdimpmaaDoor
open Go.RowKit Go.Deep

theorem dataA (a b : ByteArray) : (a ++ b).data.toList = a.data.toList ++ b.data.toList := by
  rw [ByteArray.data_append, Array.toList_append]
def signL (k : Int) : List UInt8 := (signB k).data.toList
theorem mtext_data (k : Int) (n s : ByteArray) : (mtext k n s).data.toList = (n.data.toList ++ signL k) ++ 34 :: (s.data.toList ++ 34 :: []) := by
  unfold mtext
  rw [dataA, dataA, dataA, dataA]
  simp [signL]
theorem nameB_all {n : ByteArray} (h : nameB n = true) : ∀ c ∈ n.data.toList, inName c.toNat = true := by
  unfold nameB allB at h
  simp only [Bool.and_eq_true, List.all_eq_true] at h
  exact h.2
theorem wordB_all {s : ByteArray} (h : wordB s = true) : ∀ c ∈ s.data.toList, inWord c.toNat = true := by
  unfold wordB allB at h
  simp only [Bool.and_eq_true, List.all_eq_true] at h
  exact h.2
theorem mat_parts {k : Int} {n s : ByteArray} (h : matB (k, n, s) = true) : kindB k = true ∧ nameB n = true ∧ wordB s = true := by
  unfold matB at h
  simpa only [Bool.and_eq_true] using h
theorem name_no {c : UInt8} (h : inName c.toNat = true) : c ≠ 34 ∧ c ≠ 61 ∧ c ≠ 33 := by
  refine ⟨?_, ?_, ?_⟩ <;> (rintro rfl; simp [inName] at h)
theorem word_no {c : UInt8} (h : inWord c.toNat = true) : c ≠ 34 := by rintro rfl; simp [inWord] at h
theorem signL_form {k : Int} (h : kindB k = true) : (∀ c ∈ signL k, c ≠ 34) ∧ ∃ c t, signL k = c :: t ∧ (c = 61 ∨ c = 33) := by
  rcases kinds h with rfl | rfl | rfl | rfl
  · exact ⟨by decide, 61, [], rfl, Or.inl rfl⟩
  · exact ⟨by decide, 33, [61], rfl, Or.inr rfl⟩
  · exact ⟨by decide, 61, [126], rfl, Or.inl rfl⟩
  · exact ⟨by decide, 33, [126], rfl, Or.inr rfl⟩
theorem signL_inj {k k' : Int} (h : kindB k = true) (h' : kindB k' = true) (e : signL k = signL k') : k = k' := by
  rcases kinds h with rfl | rfl | rfl | rfl <;> rcases kinds h' with rfl | rfl | rfl | rfl <;> first | rfl | (exfalso; revert e; decide)

/-- A good matcher whose text it is. -/
def ReadsM (D : List UInt8) (x : Mat) : Prop := matB x = true ∧ (mtext x.1 x.2.1 x.2.2).data.toList = D
theorem readsM_pieces {D : List UInt8} {k : Int} {n s : ByteArray} (h : ReadsM D (k, n, s)) : pieces 34 D = [n.data.toList ++ signL k, s.data.toList, []] := by
  obtain ⟨hg, rfl⟩ := h
  obtain ⟨hk, hn, hs⟩ := mat_parts hg
  show pieces 34 (mtext k n s).data.toList = _
  rw [mtext_data, pieces_cut, pieces_cut]
  · rfl
  · intro c hc; exact word_no (wordB_all hs c hc)
  · intro c hc
    rcases List.mem_append.1 hc with hc | hc
    · exact (name_no (nameB_all hn c hc)).1
    · exact (signL_form hk).1 c hc
theorem split_name {k k' : Int} {n n' : ByteArray} (hk : kindB k = true) (hk' : kindB k' = true) (hn : nameB n = true) (hn' : nameB n' = true) (e : n.data.toList ++ signL k = n'.data.toList ++ signL k') : k = k' ∧ n = n' := by
  have stop : ∀ {k : Int} {n : ByteArray}, kindB k = true → nameB n = true → (n.data.toList ++ signL k).takeWhile (fun c => inName c.toNat) = n.data.toList := by
    intro k n hk hn
    obtain ⟨_, c, t, ht, hc⟩ := signL_form hk
    rw [List.takeWhile_append_of_pos (fun a ha => nameB_all hn a ha), ht, List.takeWhile_cons_of_neg, List.append_nil]
    rcases hc with rfl | rfl <;> decide
  have h1 := stop hk hn
  have h2 := stop hk' hn'
  rw [e, h2] at h1
  rw [h1] at e
  exact ⟨signL_inj hk hk' (List.append_cancel_left e), data_inj h1.symm⟩
theorem readsM_unique {D : List UInt8} {x y : Mat} (hx : ReadsM D x) (hy : ReadsM D y) : x = y := by
  obtain ⟨k, n, s⟩ := x
  obtain ⟨k', n', s'⟩ := y
  have h1 := readsM_pieces hx
  have h2 := readsM_pieces hy
  rw [h1] at h2
  simp only [List.cons.injEq, and_true] at h2
  obtain ⟨hk, hn, _⟩ := mat_parts hx.1
  obtain ⟨hk', hn', _⟩ := mat_parts hy.1
  obtain ⟨rfl, rfl⟩ := split_name hk hk' hn hn' h2.1
  rw [data_inj h2.2]
theorem readsM_size {D : List UInt8} {k : Int} {n s : ByteArray} (h : ReadsM D (k, n, s)) : D.length ≤ 28 := by
  obtain ⟨hg, rfl⟩ := h
  have h1 := mat_name_size hg
  have h2 := mat_word_size hg
  have h3 := sign_size k
  rw [Lib.size_eq] at h1 h2 h3
  show (mtext k n s).data.toList.length ≤ 28
  rw [mtext_data]
  simp only [signL, List.length_append, List.length_cons, List.length_nil]
  omega
theorem readsM_cut {D : List UInt8} {k : Int} {n s : ByteArray} (h : ReadsM D (k, n, s)) : (Lib.cut D [34]).1 = n.data.toList ++ signL k ∧ (Lib.cut D [34]).2.1 = s.data.toList ++ [34] := by
  obtain ⟨hg, rfl⟩ := h
  obtain ⟨hk, hn, _⟩ := mat_parts hg
  show (Lib.cut (mtext k n s).data.toList [34]).1 = _ ∧ (Lib.cut (mtext k n s).data.toList [34]).2.1 = _
  have hfree : ∀ c ∈ n.data.toList ++ signL k, c ≠ 34 := by
    intro c hc
    rcases List.mem_append.1 hc with hc | hc
    · exact (name_no (nameB_all hn c hc)).1
    · exact (signL_form hk).1 c hc
  rw [mtext_data]
  generalize n.data.toList ++ signL k = p at hfree
  unfold Lib.cut
  rcases index_byte (p ++ 34 :: (s.data.toList ++ 34 :: [])) 34 with ⟨h1, h2⟩ | ⟨i, h1, h2, h3⟩
  · exact absurd rfl (h2 34 (by simp))
  · have hi : i = p.length := by
      rcases Nat.lt_trichotomy i p.length with hlt | heq | hgt
      · exfalso
        have : (p ++ 34 :: (s.data.toList ++ 34 :: []))[i]? = some 34 := by
          rw [h2, List.getElem?_append_right (by simp; omega)]
          rw [List.length_take, Nat.min_eq_left (by simp; omega), Nat.sub_self]; rfl
        rw [List.getElem?_append_left hlt, List.getElem?_eq_getElem hlt] at this
        exact hfree _ (List.getElem_mem hlt) (Option.some.inj this)
      · exact heq
      · exfalso
        refine h3 34 ?_ rfl
        rw [List.mem_take_iff_getElem]
        exact ⟨p.length, by simp; omega, by simp⟩
    rw [h1, if_pos (by omega)]
    subst hi
    simp
theorem trimSuf_self (a b : List UInt8) : Lib.trimSuffix (a ++ b) b = a := by
  unfold Lib.trimSuffix Lib.hasSuffix
  rw [if_pos (List.isSuffixOf_iff_suffix.2 (List.suffix_append a b))]
  simp

/-- What reading a text as a matcher comes to. -/
def ReadEndM (s : ByteArray) (w : World) (e : Ending) (w' : World) : Prop :=
  ∃ k n v r, e = .returned (.tuple #[matV k n v, .bool r]) ∧ Below w.heap.size w w' ∧ ((r = true ∧ ReadsM s.data.toList (k, n, v)) ∨ (r = false ∧ (k = 0 ∧ n = emp ∧ v = emp) ∧ ∀ x, ¬ ReadsM s.data.toList x))
theorem readEndM_same {s : ByteArray} {k k' : Int} {n n' v v' : ByteArray} {r r' : Bool}
    (h : (r = true ∧ ReadsM s.data.toList (k, n, v)) ∨ (r = false ∧ (k = 0 ∧ n = emp ∧ v = emp) ∧ ∀ x, ¬ ReadsM s.data.toList x))
    (h' : (r' = true ∧ ReadsM s.data.toList (k', n', v')) ∨ (r' = false ∧ (k' = 0 ∧ n' = emp ∧ v' = emp) ∧ ∀ x, ¬ ReadsM s.data.toList x)) : k = k' ∧ n = n' ∧ v = v' ∧ r = r' := by
  rcases h with ⟨rfl, h⟩ | ⟨rfl, ⟨rfl, rfl, rfl⟩, h⟩ <;> rcases h' with ⟨rfl, h'⟩ | ⟨rfl, ⟨rfl, rfl, rfl⟩, h'⟩
  · have := readsM_unique h h'
    simp only [Prod.mk.injEq] at this
    exact ⟨this.1, this.2.1, this.2.2, rfl⟩
  · exact absurd h (h' _)
  · exact absurd h' (h _)
  · exact ⟨rfl, rfl, rfl, rfl⟩
end Go.Proofs.YtpbcgfgjdimpmaaDoor
