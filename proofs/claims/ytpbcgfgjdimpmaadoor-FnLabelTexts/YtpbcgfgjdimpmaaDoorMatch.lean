/- Contracts of matching one matcher, in the program and in the model, over this seat's translation. -/
import Derived.Test.YtpbcgfgjdimpmaaDoorTakes
namespace Go.Proofs.YtpbcgfgjdimpmaaDoor
open Go.RowKit Go.Deep

theorem mat_kind {k : Int} {n s : ByteArray} (h : matB (k, n, s) = true) : kindB k = true := by
  unfold matB at h; simp only [Bool.and_eq_true] at h; exact h.1
theorem isL_size : ∀ {l : List Lab} {n : ByteArray} {B : Nat}, (∀ x ∈ l, x.2.size ≤ B) → (isL l n).size ≤ B
  | [], _, _, _ => Nat.zero_le _
  | x :: l, n, B, h => by
    rw [isL]
    cases x.1.toList == n.toList
    · exact isL_size (fun y hy => h y (List.mem_cons_of_mem _ hy))
    · exact h x (by simp)

set_option maxHeartbeats 4000000 in
set_option maxRecDepth 100000 in
theorem match83 (ao : Option Addr) (cap : Nat) (l : List Lab) (hF : Fit l) (hg : goodB l = true) (k : Int) (n s : ByteArray) (hk : kindB k = true) (hs : s.size ≤ 1048576) (w : World) (hT : Tabs w) (hM : MaxC w) (h : LRow w w.heap.size ao l) :
    Calls Tryd.prog 83 #[.slice ao l.length cap, matV k n s] w fun e w' => e = .returned (.bool (takesB k s (isL l n))) ∧ Below w.heap.size w w' := by
  have H := Lib.hid h
  clear h
  have hn := hF.1
  have ht : (isL l n).size ≤ 1048576 := isL_size (fun x hx => (hF.2 x hx).2)
  have HI := Lib.hid (isF_yes (n := n) hg)
  have HB := Lib.hid ((Below.refl w.heap.size w).alloc (Nat.le_refl _) (.cells #[.int .i64 k, .string n, .string s] 43))
  go_enter Tryd.func83, Tryd.ntmps83
  go_wp2_with fail
  refine (is20 ao cap l hn n _ (hT.below' HB.out) (H.out.after HB.out)).mono ?_
  rintro e w1 ⟨rfl, hb⟩
  rw [HI.out]
  have HB2 := Lib.hid (HB.out.trans (hb.mono HB.out.size))
  obtain ⟨k1, k2, k3⟩ := box3_cells hb
  clear hb hg
  go_wp2_with fail
  refine (rule86 k s _).mono ?_
  rintro e w2 ⟨rfl, rfl⟩
  rcases kinds hk with rfl | rfl | rfl | rfl
  · rw [ruleT1]
    have hm := meth161 s
    have HF := Lib.hid (takesB1 s (isL l n))
    go_wp2_with fail
    refine (takes161 s (isL l n)  _).mono ?_
    rintro e w3 ⟨rfl, hb⟩
    have HB3 := Lib.hid (HB2.out.trans (hb.mono HB2.out.size))
    clear hb
    go_wp2
    go_ret
    exact ⟨ret_bool HF.out.symm, HB3.out⟩
  · rw [ruleT2]
    have hm := meth162 s
    have HF := Lib.hid (takesB2 s (isL l n))
    go_wp2_with fail
    refine (takes162 s (isL l n)  _).mono ?_
    rintro e w3 ⟨rfl, hb⟩
    have HB3 := Lib.hid (HB2.out.trans (hb.mono HB2.out.size))
    clear hb
    go_wp2
    go_ret
    exact ⟨ret_bool HF.out.symm, HB3.out⟩
  · rw [ruleT3]
    have hm := meth163 s
    have HF := Lib.hid (takesB3 s (isL l n))
    go_wp2_with fail
    refine (takes163 s (isL l n) hs ht _ (hM.below' HB2.out)).mono ?_
    rintro e w3 ⟨rfl, hb⟩
    have HB3 := Lib.hid (HB2.out.trans (hb.mono HB2.out.size))
    clear hb
    go_wp2
    go_ret
    exact ⟨ret_bool HF.out.symm, HB3.out⟩
  · rw [ruleT4]
    have hm := meth164 s
    have HF := Lib.hid (takesB4 s (isL l n))
    go_wp2_with fail
    refine (takes164 s (isL l n) hs ht _ (hM.below' HB2.out)).mono ?_
    rintro e w3 ⟨rfl, hb⟩
    have HB3 := Lib.hid (HB2.out.trans (hb.mono HB2.out.size))
    clear hb
    go_wp2
    go_ret
    exact ⟨ret_bool HF.out.symm, HB3.out⟩

set_option maxHeartbeats 4000000 in
set_option maxRecDepth 100000 in
theorem match85 (k : Int) (n s t : ByteArray) (hk : kindB k = true) (hs : s.size ≤ 1048576) (ht : t.size ≤ 1048576) (w : World) :
    Calls Tryd.prog 85 #[.string t, matV k n s] w fun e w' => e = .returned (.bool (takesB k s t)) ∧ Below w.heap.size w w' := by
  have HB := Lib.hid ((Below.refl w.heap.size w).alloc (Nat.le_refl _) (.cells #[.int .i64 k, .string n, .string s] 43))
  rcases kinds hk with rfl | rfl | rfl | rfl
  · have HF := Lib.hid (takesB1 s t)
    go_enter Tryd.func85, Tryd.ntmps85
    go_wp2
    go_ret
    exact ⟨ret_bool HF.out.symm, HB.out⟩
  · have HF := Lib.hid (takesB2 s t)
    go_enter Tryd.func85, Tryd.ntmps85
    go_wp2
    go_ret
    exact ⟨ret_bool HF.out.symm, HB.out⟩
  · have HF := Lib.hid (takesB3 s t)
    go_enter Tryd.func85, Tryd.ntmps85
    go_wp2_with fail
    refine (like92 s.size s t (Nat.le_refl _) hs ht _).mono ?_
    rintro e w1 ⟨rfl, m, rfl⟩
    have HB2 := Lib.hid (below_drewN HB.out m)
    go_wp2
    go_ret
    exact ⟨ret_bool HF.out.symm, HB2.out⟩
  · have HF := Lib.hid (takesB4 s t)
    go_enter Tryd.func85, Tryd.ntmps85
    go_wp2_with fail
    refine (like92 s.size s t (Nat.le_refl _) hs ht _).mono ?_
    rintro e w1 ⟨rfl, m, rfl⟩
    have HB2 := Lib.hid (below_drewN HB.out m)
    go_wp2
    go_ret
    exact ⟨ret_bool HF.out.symm, HB2.out⟩

set_option maxHeartbeats 4000000 in
set_option maxRecDepth 100000 in
theorem takes44 (k : Int) (n s : ByteArray) (hn : n.size ≤ 1048576) (hs : s.size ≤ 1048576) (w : World) :
    Calls Tryd.prog 44 #[matV k n s] w fun e w' => e = .returned (.tuple #[.bool (matB (k, n, s) && takesB k s emp), .bool (matB (k, n, s))]) ∧ Below w.heap.size w w' := by
  have HB := Lib.hid ((Below.refl w.heap.size w).alloc (Nat.le_refl _) (.cells #[.int .i64 k, .string n, .string s] 43))
  go_enter Tryd.func44, Tryd.ntmps44
  go_wp2_with fail
  refine (good84 k n s hn hs _).mono ?_
  rintro e w1 ⟨rfl, hb⟩
  have HB2 := Lib.hid (HB.out.trans (hb.mono HB.out.size))
  obtain ⟨k1, k2, k3⟩ := box3_cells hb
  clear hb
  by_cases hg : matB (k, n, s) = true
  case neg =>
    have hg : matB (k, n, s) = false := by simpa using hg
    have HG := Lib.hid hg
    go_wp2
    go_ret2
    exact ⟨ret_bb (by rw [HG.out]; rfl) HG.out.symm, HB2.out⟩
  have HG := Lib.hid hg
  have hk := mat_kind hg
  go_wp2_with fail
  refine (match85 k n s ⟨#[]⟩ hk hs (by decide) _).mono ?_
  rintro e w2 ⟨rfl, hb⟩
  have HB3 := Lib.hid (HB2.out.trans (hb.mono HB2.out.size))
  clear hb
  go_wp2
  go_ret2
  exact ⟨ret_bb (by rw [HG.out]; rfl) HG.out.symm, HB3.out⟩

set_option maxHeartbeats 4000000 in
set_option maxRecDepth 100000 in
theorem like41 (f s : ByteArray) (hf : f.size ≤ 1048576) (hs : s.size ≤ 1048576) (w : World) (hT : Tabs w) (hM : MaxC w) :
    Calls Tryd.prog 41 #[.string f, .string s] w fun e w' => e = .returned (.tuple #[.bool (wordB f && (wordB s && likeS f s)), .bool (wordB f && wordB s)]) ∧ Below w.heap.size w w' := by
  go_enter Tryd.func41, Tryd.ntmps41
  go_wp2_with fail
  refine (word63 f _ hT).mono ?_
  rintro e w1 ⟨rfl, hb⟩
  have HB := Lib.hid hb
  clear hb
  by_cases h1 : wordB f = true
  case neg =>
    have h1 : wordB f = false := by simpa using h1
    have HG := Lib.hid h1
    go_wp2
    go_ret2
    exact ⟨ret_bb (by rw [HG.out]; rfl) (by rw [HG.out]; rfl), HB.out⟩
  have H1 := Lib.hid h1
  go_wp2_with fail
  refine (word63 s _ (hT.below' HB.out)).mono ?_
  rintro e w2 ⟨rfl, hb⟩
  have HB2 := Lib.hid (HB.out.trans (hb.mono HB.out.size))
  clear hb
  by_cases h2 : wordB s = true
  case neg =>
    have h2 : wordB s = false := by simpa using h2
    have HG := Lib.hid h2
    go_wp2
    go_ret2
    exact ⟨ret_bb (by rw [H1.out, HG.out]; rfl) (by rw [H1.out, HG.out]; rfl), HB2.out⟩
  have H2 := Lib.hid h2
  go_wp2_with fail
  refine (form90 f s hf hs _ (hM.below' HB2.out)).mono ?_
  rintro e w3 ⟨rfl, hb⟩
  have HB3 := Lib.hid (HB2.out.trans (hb.mono HB2.out.size))
  clear hb
  go_wp2
  go_ret2
  exact ⟨ret_bb (by rw [H1.out, H2.out]; rfl) (by rw [H1.out, H2.out]; rfl), HB3.out⟩

set_option maxHeartbeats 4000000 in
set_option maxRecDepth 100000 in
theorem like42 (f s : ByteArray) (hf : f.size ≤ 1048576) (hs : s.size ≤ 1048576) (w : World) :
    Calls Tryd.prog 42 #[.string f, .string s] w fun e w' => e = .returned (.tuple #[.bool (wordB f && (wordB s && likeS f s)), .bool (wordB f && wordB s)]) ∧ Below w.heap.size w w' := by
  go_enter Tryd.func42, Tryd.ntmps42
  go_wp2_with fail
  refine (word91 f (by omega) _).mono ?_
  rintro e w1 ⟨rfl, rfl⟩
  by_cases h1 : wordB f = true
  case neg =>
    have h1 : wordB f = false := by simpa using h1
    have HG := Lib.hid h1
    go_wp2
    go_ret2
    exact ⟨ret_bb (by rw [HG.out]; rfl) (by rw [HG.out]; rfl), Below.refl _ _⟩
  have H1 := Lib.hid h1
  go_wp2_with fail
  refine (word91 s (by omega) _).mono ?_
  rintro e w2 ⟨rfl, rfl⟩
  by_cases h2 : wordB s = true
  case neg =>
    have h2 : wordB s = false := by simpa using h2
    have HG := Lib.hid h2
    go_wp2
    go_ret2
    exact ⟨ret_bb (by rw [H1.out, HG.out]; rfl) (by rw [H1.out, HG.out]; rfl), Below.refl _ _⟩
  have H2 := Lib.hid h2
  go_wp2_with fail
  refine (like92 f.size f s (Nat.le_refl _) hf hs _).mono ?_
  rintro e w3 ⟨rfl, m, rfl⟩
  have HB2 := Lib.hid (below_drewN (Below.refl w.heap.size w) m)
  go_wp2
  go_ret2
  exact ⟨ret_bb (by rw [H1.out, H2.out]; rfl) (by rw [H1.out, H2.out]; rfl), HB2.out⟩
end Go.Proofs.YtpbcgfgjdimpmaaDoor
