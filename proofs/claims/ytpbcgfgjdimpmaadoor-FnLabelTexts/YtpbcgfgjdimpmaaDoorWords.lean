/- Contracts of a name and of a word, in the program and in the model, over this seat's translation: both sides answer nameB and wordB. -/
import Derived.Test.YtpbcgfgjdimpmaaDoorNames
namespace Go.Proofs.YtpbcgfgjdimpmaaDoor
open Go.RowKit Go.Deep

/-- Where a loop over a string stands: its iterator, what has been seen, and the old memory. -/
def At (p : Nat → Bool) (s : ByteArray) (w : World) (pos : Nat) (wr : World) : Prop :=
  wr.heap[w.heap.size]? = some (.stringIter s pos) ∧ upTo p s pos ∧ Below w.heap.size w wr

theorem At.next {p : Nat → Bool} {s : ByteArray} {w wr w2 : World} {pos : Nat} (h : At p s w pos wr) (hp : pos < s.size) (hc : p (s[pos]'hp).toNat = true) (hb : Below (wr.iterAt w.heap.size s (pos + 1)).heap.size (wr.iterAt w.heap.size s (pos + 1)) w2) : At p s w (pos + 1) w2 := by
  have hlt : w.heap.size < wr.heap.size := (Array.getElem?_eq_some_iff.1 h.1).1
  refine ⟨?_, upTo_succ h.2.1 hp hc, ?_⟩
  · rw [hb.block _ (by rw [Lib.iterAt_size]; exact hlt)]
    exact Lib.iterAt_heap wr _ s pos _ h.1
  · exact (Lib.below_iterAt h.2.2 (Nat.le_refl _) s _).trans (hb.mono (by rw [Lib.iterAt_size]; omega))

theorem At.after {p : Nat → Bool} {s : ByteArray} {w wr w2 : World} {pos q : Nat} (h : At p s w pos wr) (hb : Below (wr.iterAt w.heap.size s q).heap.size (wr.iterAt w.heap.size s q) w2) : Below w.heap.size w w2 := by
  have hlt : w.heap.size < wr.heap.size := (Array.getElem?_eq_some_iff.1 h.1).1
  exact (Lib.below_iterAt h.2.2 (Nat.le_refl _) s _).trans (hb.mono (by rw [Lib.iterAt_size]; omega))

theorem At.tabs {p : Nat → Bool} {s : ByteArray} {w wr : World} {pos q : Nat} (h : At p s w pos wr) (hT : Tabs w) : Tabs (wr.iterAt w.heap.size s q) :=
  hT.below' (Lib.below_iterAt h.2.2 (Nat.le_refl _) s _)

theorem At.spans {p : Nat → Bool} {s : ByteArray} {w wr : World} {pos q : Nat} (h : At p s w pos wr) (hT : Spans w) : Spans (wr.iterAt w.heap.size s q) :=
  hT.below' (Lib.below_iterAt h.2.2 (Nat.le_refl _) s _)

theorem At.pos {p : Nat → Bool} {s : ByteArray} {w wr : World} {pos : Nat} (h : At p s w pos wr) : wr.iterPos w.heap.size = pos := by simp [World.iterPos, h.1]

theorem nameB_ok {s : ByteArray} (h1 : 0 < s.size) (h2 : s.size ≤ 12) (h3 : isDig (s[0]'h1).toNat = false) : nameB s = allB inName s := by
  have hh : s.data.toList.headD 0 = s[0]'h1 := by
    rw [List.headD_eq_head?_getD, List.head?_eq_getElem?, List.getElem?_eq_getElem (by simpa using h1)]; rfl
  unfold nameB
  rw [hh, h3]
  have h0 : 1 ≤ s.size := h1
  simp [h0, h2]
theorem nameB_no {s : ByteArray} (h : s.size = 0 ∨ 12 < s.size ∨ ∃ h1 : 0 < s.size, isDig (s[0]'h1).toNat = true) : nameB s = false := by
  unfold nameB
  rcases h with h | h | ⟨h1, h⟩
  · simp [h]
  · have : ¬ s.size ≤ 12 := by omega
    simp [this]
  · have hh : s.data.toList.headD 0 = s[0]'h1 := by
      rw [List.headD_eq_head?_getD, List.head?_eq_getElem?, List.getElem?_eq_getElem (by simpa using h1)]; rfl
    rw [hh, h]
    simp

theorem nonempty_of {s : ByteArray} (h1 : 0 < s.size) : s.toList.isEmpty = false := by
  rw [Lib.toList_data, List.isEmpty_eq_false_iff_exists_mem]
  exact ⟨s[0]'h1, Array.mem_toList_iff.2 (Array.getElem_mem (xs := s.data) h1)⟩
theorem empty_of {s : ByteArray} (h1 : s.size = 0) : s.toList.isEmpty = true := by
  rw [Lib.toList_data, List.isEmpty_iff, ← List.length_eq_zero_iff]
  exact h1
theorem byte32 (b : UInt8) : wrap32 (b.toNat : Int) = (b.toNat : Int) := IntWalk.wrap32_in _ (by have := b.toNat_lt; omega)

set_option maxHeartbeats 1000000 in
theorem name26 (s : ByteArray) (w : World) (hT : Spans w) : Calls Tryd.prog 79 #[.string s] w fun e w' => e = .returned (.bool (nameB s)) ∧ Below w.heap.size w w' := by
  by_cases h1 : 0 < s.size
  case neg =>
    have he := empty_of (s := s) (by omega)
    have HN := Lib.hid (nameB_no (s := s) (.inl (by omega)))
    go_enter Tryd.func79, Tryd.ntmps79
    go_wp2
    go_ret
    exact ⟨ret_bool HN.out.symm, Below.refl _ _⟩
  have he := nonempty_of h1
  by_cases h2 : s.size ≤ 12
  case neg =>
    have hd : decide (12 < (s.size : Int)) = true := by simp; omega
    have HN := Lib.hid (nameB_no (s := s) (.inr (.inl (by omega))))
    go_enter Tryd.func79, Tryd.ntmps79
    go_wp2
    go_ret
    exact ⟨ret_bool HN.out.symm, Below.refl _ _⟩
  have hd : decide (12 < (s.size : Int)) = false := by simp; omega
  have hb0 := byte32 (s[0]'h1)
  by_cases h3 : isDig (s[0]'h1).toNat = true
  case pos =>
    have HN := Lib.hid (nameB_no (s := s) (.inr (.inr ⟨h1, h3⟩)))
    have H3 := Lib.hid h3
    clear h3
    go_enter Tryd.func79, Tryd.ntmps79
    go_wp2_with fail
    refine (dig71 _ _).mono ?_
    rw [H3.out]
    rintro e w1 ⟨rfl, rfl⟩
    go_wp2
    go_ret
    exact ⟨ret_bool HN.out.symm, Below.refl _ _⟩
  have h3 : isDig (s[0]'h1).toNat = false := by simpa using h3
  have H3 := Lib.hid h3
  have HN := Lib.hid (nameB_ok h1 h2 h3)
  clear h3
  go_enter Tryd.func79, Tryd.ntmps79
  go_wp2_with fail
  refine (dig71 _ _).mono ?_
  rw [H3.out]
  rintro e w1 ⟨rfl, rfl⟩
  go_wp2_with fail
  go_loopw [4] (fun _ wr => ∃ pos : Nat, pos ≤ s.size ∧ Hid (At inName s w pos wr)) (fun _ wr => s.size - wr.iterPos w.heap.size)
  case atStart => exact ⟨0, Nat.zero_le _, World.iter_heap w s 0, upTo_zero _ _, (Below.refl _ _).alloc (Nat.le_refl _) _⟩
  case round =>
    obtain ⟨pos, hp, hA⟩ := hrel
    by_cases hlt : pos < s.size
    · by_cases ha : (s[pos]'hlt).toNat < 128
      · have hnx := fun ty => Lib.run_next_ascii_at (P := Tryd.prog) wr w.heap.size s pos ty hA.out.1 hlt ha
        by_cases hin : inName (s[pos]'hlt).toNat = true
        · have HI := Lib.hid hin
          clear hin
          go_wp2_with fail
          refine (inName72 _ _ (hA.out.spans hT)).mono ?_
          rw [HI.out]
          rintro e w2 ⟨rfl, hb⟩
          have HB := Lib.hid (hA.out.next hlt HI.out hb)
          clear hb hnx
          go_wp2
          go_roundw
          case rel => exact ⟨pos + 1, by omega, HB⟩
          case measure => rw [HB.out.pos, hA.out.pos]; omega
        · have hin : inName (s[pos]'hlt).toNat = false := by simpa using hin
          have HI := Lib.hid hin
          clear hin
          go_wp2_with fail
          refine (inName72 _ _ (hA.out.spans hT)).mono ?_
          rw [HI.out]
          rintro e w2 ⟨rfl, hb⟩
          have HB := Lib.hid (hA.out.after hb)
          clear hb hnx
          go_wp2
          go_ret
          exact ⟨ret_bool (by rw [HN.out, allB_not hlt HI.out]), HB.out⟩
      · have hnx := fun ty => Lib.run_next_any_at (P := Tryd.prog) wr w.heap.size s pos ty hA.out.1 hlt
        have hdh := decode_high s pos hlt (by omega)
        have hin : inName (Utf8.decode s pos).1 = false := inName_high hdh.1
        have HI := Lib.hid hin
        have HI2 := Lib.hid (inName_high (c := (s[pos]'hlt).toNat) (by omega))
        clear hin hdh
        generalize Utf8.decode s pos = d at hnx HI
        go_wp2_with fail
        refine (inName72 _ _ (hA.out.spans hT)).mono ?_
        rw [HI.out]
        rintro e w2 ⟨rfl, hb⟩
        have HB := Lib.hid (hA.out.after hb)
        clear hb hnx
        go_wp2
        go_ret
        exact ⟨ret_bool (by rw [HN.out, allB_not hlt HI2.out]), HB.out⟩
    · have hnx := fun ty => Lib.run_next_end_at (P := Tryd.prog) wr w.heap.size s pos ty hA.out.1 hlt
      obtain rfl : pos = s.size := by omega
      go_wp2
      go_ret
      exact ⟨ret_bool (by rw [HN.out, allB_of hA.out.2.1]), hA.out.2.2⟩

theorem wordB_ok {s : ByteArray} (h2 : s.size ≤ 12) : wordB s = allB inWord s := by simp [wordB, h2]
theorem wordB_no {s : ByteArray} (h2 : ¬ s.size ≤ 12) : wordB s = false := by simp [wordB, h2]

set_option maxHeartbeats 1000000 in
theorem word63 (s : ByteArray) (w : World) (hT : Tabs w) : Calls Tryd.prog 80 #[.string s] w fun e w' => e = .returned (.bool (wordB s)) ∧ Below w.heap.size w w' := by
  by_cases h2 : s.size ≤ 12
  case neg =>
    have hd : decide (12 < (s.size : Int)) = true := by simp; omega
    have HN := Lib.hid (wordB_no h2)
    go_enter Tryd.func80, Tryd.ntmps80
    go_wp2
    go_ret
    exact ⟨ret_bool HN.out.symm, Below.refl _ _⟩
  have hd : decide (12 < (s.size : Int)) = false := by simp; omega
  have HN := Lib.hid (wordB_ok h2)
  go_enter Tryd.func80, Tryd.ntmps80
  go_wp2_with fail
  go_loopw [4] (fun _ wr => ∃ pos : Nat, pos ≤ s.size ∧ Hid (At inWord s w pos wr)) (fun _ wr => s.size - wr.iterPos w.heap.size)
  case atStart => exact ⟨0, Nat.zero_le _, World.iter_heap w s 0, upTo_zero _ _, (Below.refl _ _).alloc (Nat.le_refl _) _⟩
  case round =>
    obtain ⟨pos, hp, hA⟩ := hrel
    by_cases hlt : pos < s.size
    · by_cases ha : (s[pos]'hlt).toNat < 128
      · have hnx := fun ty => Lib.run_next_ascii_at (P := Tryd.prog) wr w.heap.size s pos ty hA.out.1 hlt ha
        by_cases hin : inWord (s[pos]'hlt).toNat = true
        · have HI := Lib.hid hin
          have HB := Lib.hid (hA.out.next hlt HI.out (Below.refl _ _))
          clear hin
          go_wp2_with fail
          refine (inWord92 _ _ (hA.out.tabs hT)).mono ?_
          rw [HI.out]
          rintro e w2 ⟨rfl, rfl⟩
          clear hnx
          go_wp2
          go_roundw
          case rel => exact ⟨pos + 1, by omega, HB⟩
          case measure => rw [HB.out.pos, hA.out.pos]; omega
        · have hin : inWord (s[pos]'hlt).toNat = false := by simpa using hin
          have HI := Lib.hid hin
          have HB := Lib.hid (hA.out.after (q := pos + 1) (Below.refl _ _))
          clear hin
          go_wp2_with fail
          refine (inWord92 _ _ (hA.out.tabs hT)).mono ?_
          rw [HI.out]
          rintro e w2 ⟨rfl, rfl⟩
          clear hnx
          go_wp2
          go_ret
          exact ⟨ret_bool (by rw [HN.out, allB_not hlt HI.out]), HB.out⟩
      · have hnx := fun ty => Lib.run_next_any_at (P := Tryd.prog) wr w.heap.size s pos ty hA.out.1 hlt
        have hdh := decode_high s pos hlt (by omega)
        have hin : inWord (Utf8.decode s pos).1 = false := inWord_high hdh.1
        have HI := Lib.hid hin
        have HI2 := Lib.hid (inWord_high (c := (s[pos]'hlt).toNat) (by omega))
        clear hin hdh
        generalize Utf8.decode s pos = d at hnx HI
        have HB := Lib.hid (hA.out.after (q := pos + d.2) (Below.refl _ _))
        go_wp2_with fail
        refine (inWord92 _ _ (hA.out.tabs hT)).mono ?_
        rw [HI.out]
        rintro e w2 ⟨rfl, rfl⟩
        clear hnx
        go_wp2
        go_ret
        exact ⟨ret_bool (by rw [HN.out, allB_not hlt HI2.out]), HB.out⟩
    · have hnx := fun ty => Lib.run_next_end_at (P := Tryd.prog) wr w.heap.size s pos ty hA.out.1 hlt
      obtain rfl : pos = s.size := by omega
      go_wp2
      go_ret
      exact ⟨ret_bool (by rw [HN.out, allB_of hA.out.2.1]), hA.out.2.2⟩

end Go.Proofs.YtpbcgfgjdimpmaaDoor
