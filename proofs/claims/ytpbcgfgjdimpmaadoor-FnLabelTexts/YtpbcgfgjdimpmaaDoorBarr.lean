/- The word of the program, and being of a form, where only the table of bytes that words have not is known. -/
import Derived.Test.YtpbcgfgjdimpmaaDoorMatch
namespace Go.Proofs.YtpbcgfgjdimpmaaDoor
open Go.RowKit Go.Deep

/-- The table of bytes that words have not lies in memory as the program's text lays it. -/
def Barred (w : World) : Prop := ∃ t fr, w.heap[1]? = some (.cells #[.int .i32 34, .int .i32 44, .int .i32 123, .int .i32 125] t fr)
theorem Tabs.bar {w : World} (h : Tabs w) : Barred w := h.barred
theorem Barred.size {w : World} (h : Barred w) : 2 ≤ w.heap.size := by
  obtain ⟨t, fr, e⟩ := h
  exact (Array.getElem?_eq_some_iff.1 e).1
theorem Barred.below' {w w' : World} (h : Barred w) (hb : Below w.heap.size w w') : Barred w' := by
  have hs := h.size
  obtain ⟨t, fr, e⟩ := h
  exact ⟨t, fr, (hb.block 1 (by omega)).trans e⟩
theorem At.bar {p : Nat → Bool} {s : ByteArray} {w wr : World} {pos q : Nat} (h : At p s w pos wr) (hT : Barred w) : Barred (wr.iterAt w.heap.size s q) :=
  hT.below' (Lib.below_iterAt h.2.2 (Nat.le_refl _) s _)


set_option maxHeartbeats 1000000 in
theorem inWordB (c : Nat) (w : World) (hT : Barred w) : Calls Tryd.prog 112 #[.int .i32 c] w fun e w' => e = .returned (.bool (inWord c)) ∧ w = w' := by
  obtain ⟨t, fr, hg⟩ := hT
  have HG := Lib.hid hg
  clear hg
  have i0 : ∀ w, (Instr.index 147 (.agg #[.int .i32 34, .int .i32 44, .int .i32 123, .int .i32 125]) (.int .i64 0)).run Tryd.prog w = .ok (.int .i32 34) w := fun _ => by kernel_rfl
  have i1 : ∀ w, (Instr.index 147 (.agg #[.int .i32 34, .int .i32 44, .int .i32 123, .int .i32 125]) (.int .i64 1)).run Tryd.prog w = .ok (.int .i32 44) w := fun _ => by kernel_rfl
  have i2 : ∀ w, (Instr.index 147 (.agg #[.int .i32 34, .int .i32 44, .int .i32 123, .int .i32 125]) (.int .i64 2)).run Tryd.prog w = .ok (.int .i32 123) w := fun _ => by kernel_rfl
  have i3 : ∀ w, (Instr.index 147 (.agg #[.int .i32 34, .int .i32 44, .int .i32 123, .int .i32 125]) (.int .i64 3)).run Tryd.prog w = .ok (.int .i32 125) w := fun _ => by kernel_rfl
  have hcase : c = 34 ∨ c = 44 ∨ c = 123 ∨ c = 125 ∨ (c ≠ 34 ∧ c ≠ 44 ∧ c ≠ 123 ∧ c ≠ 125 ∧ c < 33) ∨ (c ≠ 34 ∧ c ≠ 44 ∧ c ≠ 123 ∧ c ≠ 125 ∧ 33 ≤ c ∧ 126 < c) ∨ (c ≠ 34 ∧ c ≠ 44 ∧ c ≠ 123 ∧ c ≠ 125 ∧ 33 ≤ c ∧ c ≤ 126) := by omega
  rcases hcase with rfl | rfl | rfl | rfl | ⟨n1, n2, n3, n4, h1⟩ | ⟨n1, n2, n3, n4, h1, h2⟩ | ⟨n1, n2, n3, n4, h1, h2⟩
  iterate 4
    · go_enter Tryd.func112, Tryd.ntmps112
      go_wp2_with (refine wpList_load_row rfl 147 _ rfl 1 rfl t _ fr _ HG.out Tryd.underlying147 rfl (by kernel_rfl) ?_)
      refine wp_loop_rounds 5 ?_
      rw [rounds_succ]
      go_wp2
      repeat (rw [rounds_succ]; go_wp2)
      go_ret
      exact ⟨rfl, rfl⟩
  all_goals
    have e1 : ((c : Int) == 34) = false := beq_eq_false_iff_ne.2 (by omega)
    have e2 : ((c : Int) == 44) = false := beq_eq_false_iff_ne.2 (by omega)
    have e3 : ((c : Int) == 123) = false := beq_eq_false_iff_ne.2 (by omega)
    have e4 : ((c : Int) == 125) = false := beq_eq_false_iff_ne.2 (by omega)
    go_enter Tryd.func112, Tryd.ntmps112
    go_wp2_with (refine wpList_load_row rfl 147 _ rfl 1 rfl t _ fr _ HG.out Tryd.underlying147 rfl (by kernel_rfl) ?_)
    refine wp_loop_rounds 5 ?_
    rw [rounds_succ]
    go_wp2
    repeat (rw [rounds_succ]; go_wp2)
    go_ret
    exact ⟨ret_bool (by rw [Bool.eq_iff_iff]; simp [inWord]; omega), rfl⟩
set_option maxHeartbeats 1000000 in
theorem word63b (s : ByteArray) (w : World) (hT : Barred w) : Calls Tryd.prog 80 #[.string s] w fun e w' => e = .returned (.bool (wordB s)) ∧ Below w.heap.size w w' := by
  by_cases h2 : s.size ≤ 12
  case neg =>
    have hd : decide (12 < (s.size : Int)) = true := by simp; omega
    have HN := Lib.hid (wordB_no h2)
    go_enter Tryd.func80, Tryd.ntmps80
    go_wp2
    go_ret
    exact ⟨ret_bool HN.out.symm, Below.refl _ _⟩
  have hd : decide (12 < (s.size : Int)) = false := by simp; omega
  have HN := Lib.hid (wordB_ok h2)
  go_enter Tryd.func80, Tryd.ntmps80
  go_wp2_with fail
  go_loopw [4] (fun _ wr => ∃ pos : Nat, pos ≤ s.size ∧ Hid (At inWord s w pos wr)) (fun _ wr => s.size - wr.iterPos w.heap.size)
  case atStart => exact ⟨0, Nat.zero_le _, World.iter_heap w s 0, upTo_zero _ _, (Below.refl _ _).alloc (Nat.le_refl _) _⟩
  case round =>
    obtain ⟨pos, hp, hA⟩ := hrel
    by_cases hlt : pos < s.size
    · by_cases ha : (s[pos]'hlt).toNat < 128
      · have hnx := fun ty => Lib.run_next_ascii_at (P := Tryd.prog) wr w.heap.size s pos ty hA.out.1 hlt ha
        by_cases hin : inWord (s[pos]'hlt).toNat = true
        · have HI := Lib.hid hin
          have HB := Lib.hid (hA.out.next hlt HI.out (Below.refl _ _))
          clear hin
          go_wp2_with fail
          refine (inWordB _ _ (hA.out.bar hT)).mono ?_
          rw [HI.out]
          rintro e w2 ⟨rfl, rfl⟩
          clear hnx
          go_wp2
          go_roundw
          case rel => exact ⟨pos + 1, by omega, HB⟩
          case measure => rw [HB.out.pos, hA.out.pos]; omega
        · have hin : inWord (s[pos]'hlt).toNat = false := by simpa using hin
          have HI := Lib.hid hin
          have HB := Lib.hid (hA.out.after (q := pos + 1) (Below.refl _ _))
          clear hin
          go_wp2_with fail
          refine (inWordB _ _ (hA.out.bar hT)).mono ?_
          rw [HI.out]
          rintro e w2 ⟨rfl, rfl⟩
          clear hnx
          go_wp2
          go_ret
          exact ⟨ret_bool (by rw [HN.out, allB_not hlt HI.out]), HB.out⟩
      · have hnx := fun ty => Lib.run_next_any_at (P := Tryd.prog) wr w.heap.size s pos ty hA.out.1 hlt
        have hdh := decode_high s pos hlt (by omega)
        have hin : inWord (Utf8.decode s pos).1 = false := inWord_high hdh.1
        have HI := Lib.hid hin
        have HI2 := Lib.hid (inWord_high (c := (s[pos]'hlt).toNat) (by omega))
        clear hin hdh
        generalize Utf8.decode s pos = d at hnx HI
        have HB := Lib.hid (hA.out.after (q := pos + d.2) (Below.refl _ _))
        go_wp2_with fail
        refine (inWordB _ _ (hA.out.bar hT)).mono ?_
        rw [HI.out]
        rintro e w2 ⟨rfl, rfl⟩
        clear hnx
        go_wp2
        go_ret
        exact ⟨ret_bool (by rw [HN.out, allB_not hlt HI2.out]), HB.out⟩
    · have hnx := fun ty => Lib.run_next_end_at (P := Tryd.prog) wr w.heap.size s pos ty hA.out.1 hlt
      obtain rfl : pos = s.size := by omega
      go_wp2
      go_ret
      exact ⟨ret_bool (by rw [HN.out, allB_of hA.out.2.1]), hA.out.2.2⟩

set_option maxHeartbeats 4000000 in
set_option maxRecDepth 100000 in
theorem like41b (f s : ByteArray) (hf : f.size ≤ 1048576) (hs : s.size ≤ 1048576) (w : World) (hT : Barred w) (hM : MaxC w) :
    Calls Tryd.prog 41 #[.string f, .string s] w fun e w' => e = .returned (.tuple #[.bool (wordB f && (wordB s && likeS f s)), .bool (wordB f && wordB s)]) ∧ Below w.heap.size w w' := by
  go_enter Tryd.func41, Tryd.ntmps41
  go_wp2_with fail
  refine (word63b f _ hT).mono ?_
  rintro e w1 ⟨rfl, hb⟩
  have HB := Lib.hid hb
  clear hb
  by_cases h1 : wordB f = true
  case neg =>
    have h1 : wordB f = false := by simpa using h1
    have HG := Lib.hid h1
    go_wp2
    go_ret2
    exact ⟨ret_bb (by rw [HG.out]; rfl) (by rw [HG.out]; rfl), HB.out⟩
  have H1 := Lib.hid h1
  go_wp2_with fail
  refine (word63b s _ (hT.below' HB.out)).mono ?_
  rintro e w2 ⟨rfl, hb⟩
  have HB2 := Lib.hid (HB.out.trans (hb.mono HB.out.size))
  clear hb
  by_cases h2 : wordB s = true
  case neg =>
    have h2 : wordB s = false := by simpa using h2
    have HG := Lib.hid h2
    go_wp2
    go_ret2
    exact ⟨ret_bb (by rw [H1.out, HG.out]; rfl) (by rw [H1.out, HG.out]; rfl), HB2.out⟩
  have H2 := Lib.hid h2
  go_wp2_with fail
  refine (form90 f s hf hs _ (hM.below' HB2.out)).mono ?_
  rintro e w3 ⟨rfl, hb⟩
  have HB3 := Lib.hid (HB2.out.trans (hb.mono HB2.out.size))
  clear hb
  go_wp2
  go_ret2
  exact ⟨ret_bb (by rw [H1.out, H2.out]; rfl) (by rw [H1.out, H2.out]; rfl), HB3.out⟩
end Go.Proofs.YtpbcgfgjdimpmaaDoor
