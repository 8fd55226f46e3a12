/- Contracts of what a matcher takes, in the program (behind an interface) and in the model, over this seat's translation: both sides answer takesB. -/
import Derived.Test.YtpbcgfgjdimpmaaDoorForm
namespace Go.Proofs.YtpbcgfgjdimpmaaDoor
open Go.RowKit Go.Deep

/-- Whether a matcher of this Kind and Want takes this text. -/
def takesB (k : Int) (want t : ByteArray) : Bool :=
  if k = 1 then t.toList == want.toList else if k = 2 then !(t.toList == want.toList) else if k = 3 then likeS want t else !likeS want t

theorem takes161 (s t : ByteArray) (w : World) : Calls Tryd.prog 161 #[.agg #[.string s], .string t] w fun e w' => e = .returned (.bool (t.toList == s.toList)) ∧ Below w.heap.size w w' := by
  go_enter Tryd.func161, Tryd.ntmps161
  go_wp2
  go_ret
  exact ⟨rfl, (Below.refl _ _).alloc (Nat.le_refl _) _⟩
theorem takes162 (s t : ByteArray) (w : World) : Calls Tryd.prog 162 #[.agg #[.string s], .string t] w fun e w' => e = .returned (.bool (!(t.toList == s.toList))) ∧ Below w.heap.size w w' := by
  have HB := Lib.hid ((Below.refl w.heap.size w).alloc (Nat.le_refl _) (.cells #[.string s] 134))
  go_enter Tryd.func162, Tryd.ntmps162
  go_wp2_with fail
  refine (takes161 s t _).mono ?_
  rintro e w1 ⟨rfl, hb⟩
  have HB2 := Lib.hid (HB.out.trans (hb.mono HB.out.size))
  clear hb
  go_wp2
  go_ret
  exact ⟨rfl, HB2.out⟩
theorem takes163 (s t : ByteArray) (hs : s.size ≤ 1048576) (ht : t.size ≤ 1048576) (w : World) (hM : MaxC w) : Calls Tryd.prog 163 #[.agg #[.string s], .string t] w fun e w' => e = .returned (.bool (likeS s t)) ∧ Below w.heap.size w w' := by
  have HB := Lib.hid ((Below.refl w.heap.size w).alloc (Nat.le_refl _) (.cells #[.string s] 136))
  go_enter Tryd.func163, Tryd.ntmps163
  go_wp2_with fail
  refine (form90 s t hs ht _ (hM.below' HB.out)).mono ?_
  rintro e w1 ⟨rfl, hb⟩
  have HB2 := Lib.hid (HB.out.trans (hb.mono HB.out.size))
  clear hb
  go_wp2
  go_ret
  exact ⟨rfl, HB2.out⟩
theorem takes164 (s t : ByteArray) (hs : s.size ≤ 1048576) (ht : t.size ≤ 1048576) (w : World) (hM : MaxC w) : Calls Tryd.prog 164 #[.agg #[.string s], .string t] w fun e w' => e = .returned (.bool (!likeS s t)) ∧ Below w.heap.size w w' := by
  have HB := Lib.hid ((Below.refl w.heap.size w).alloc (Nat.le_refl _) (.cells #[.string s] 137))
  go_enter Tryd.func164, Tryd.ntmps164
  go_wp2_with fail
  refine (takes163 s t hs ht _ (hM.below' HB.out)).mono ?_
  rintro e w1 ⟨rfl, hb⟩
  have HB2 := Lib.hid (HB.out.trans (hb.mono HB.out.size))
  clear hb
  go_wp2
  go_ret
  exact ⟨rfl, HB2.out⟩

theorem kinds {k : Int} (h : kindB k = true) : k = 1 ∨ k = 2 ∨ k = 3 ∨ k = 4 := by
  have := kind_of h
  omega
theorem takesB1 (s t : ByteArray) : takesB 1 s t = (t.toList == s.toList) := rfl
theorem takesB2 (s t : ByteArray) : takesB 2 s t = !(t.toList == s.toList) := rfl
theorem takesB3 (s t : ByteArray) : takesB 3 s t = likeS s t := rfl
theorem takesB4 (s t : ByteArray) : takesB 4 s t = !likeS s t := rfl
theorem ruleT1 : ruleT 1 = 133 := rfl
theorem ruleT2 : ruleT 2 = 134 := rfl
theorem ruleT3 : ruleT 3 = 136 := rfl
theorem ruleT4 : ruleT 4 = 137 := rfl

theorem emp_eq (s : ByteArray) : (emp.toList == s.toList) = s.toList.isEmpty := by
  rw [show emp.toList = [] by rw [Lib.toList_data]; rfl]
  cases s.toList <;> rfl
theorem meth161 (s : ByteArray) (w : World) : (method 276 133 (.agg #[.string s]) "loop.example/g00747/impl.takes").run Tryd.prog w = .ok (161, .agg #[.string s]) w := by kernel_rfl
theorem meth162 (s : ByteArray) (w : World) : (method 276 134 (.agg #[.string s]) "loop.example/g00747/impl.takes").run Tryd.prog w = .ok (162, .agg #[.string s]) w := by kernel_rfl
theorem meth163 (s : ByteArray) (w : World) : (method 276 136 (.agg #[.string s]) "loop.example/g00747/impl.takes").run Tryd.prog w = .ok (163, .agg #[.string s]) w := by kernel_rfl
theorem meth164 (s : ByteArray) (w : World) : (method 276 137 (.agg #[.string s]) "loop.example/g00747/impl.takes").run Tryd.prog w = .ok (164, .agg #[.string s]) w := by kernel_rfl

theorem ret_bb {a b c d : Bool} (h : a = b) (h' : c = d) : Ending.returned (.tuple #[.bool a, .bool c]) = .returned (.tuple #[.bool b, .bool d]) := by rw [h, h']

set_option maxHeartbeats 4000000 in
set_option maxRecDepth 100000 in
theorem takes34 (k : Int) (n s : ByteArray) (hs : s.size ≤ 1048576) (w : World) (hT : Tabs w) (hM : MaxC w) :
    Calls Tryd.prog 34 #[matV k n s] w fun e w' => e = .returned (.tuple #[.bool (matB (k, n, s) && takesB k s emp), .bool (matB (k, n, s))]) ∧ Below w.heap.size w w' := by
  have HB := Lib.hid ((Below.refl w.heap.size w).alloc (Nat.le_refl _) (.cells #[.int .i64 k, .string n, .string s] 43))
  go_enter Tryd.func34, Tryd.ntmps34
  go_wp2_with fail
  refine (good82 k n s _ (hT.below' HB.out)).mono ?_
  rintro e w1 ⟨rfl, hb⟩
  have HB2 := Lib.hid (HB.out.trans (hb.mono HB.out.size))
  obtain ⟨k1, k2, k3⟩ := box3_cells hb
  clear hb
  by_cases hg : matB (k, n, s) = true
  case neg =>
    have hg : matB (k, n, s) = false := by simpa using hg
    have HG := Lib.hid hg
    go_wp2
    go_ret2
    exact ⟨ret_bb (by rw [HG.out]; rfl) HG.out.symm, HB2.out⟩
  have HG := Lib.hid hg
  have hk : kindB k = true := by unfold matB at hg; simp only [Bool.and_eq_true] at hg; exact hg.1
  go_wp2_with fail
  refine (rule86 k s _).mono ?_
  rintro e w2 ⟨rfl, rfl⟩
  rcases kinds hk with rfl | rfl | rfl | rfl
  · rw [ruleT1]
    have hm := meth161 s
    go_wp2_with fail
    refine (takes161 s ⟨#[]⟩  _).mono ?_
    rintro e w3 ⟨rfl, hb⟩
    have HB3 := Lib.hid (HB2.out.trans (hb.mono HB2.out.size))
    clear hb
    go_wp2
    go_ret2
    exact ⟨ret_bb (by rw [HG.out, takesB1, emp_eq]; rfl) HG.out.symm, HB3.out⟩
  · rw [ruleT2]
    have hm := meth162 s
    go_wp2_with fail
    refine (takes162 s ⟨#[]⟩  _).mono ?_
    rintro e w3 ⟨rfl, hb⟩
    have HB3 := Lib.hid (HB2.out.trans (hb.mono HB2.out.size))
    clear hb
    go_wp2
    go_ret2
    exact ⟨ret_bb (by rw [HG.out, takesB2, emp_eq]; rfl) HG.out.symm, HB3.out⟩
  · rw [ruleT3]
    have hm := meth163 s
    go_wp2_with fail
    refine (takes163 s ⟨#[]⟩ hs (by decide) _ (hM.below' HB2.out)).mono ?_
    rintro e w3 ⟨rfl, hb⟩
    have HB3 := Lib.hid (HB2.out.trans (hb.mono HB2.out.size))
    clear hb
    go_wp2
    go_ret2
    exact ⟨ret_bb (by rw [HG.out, takesB3]; rfl) HG.out.symm, HB3.out⟩
  · rw [ruleT4]
    have hm := meth164 s
    go_wp2_with fail
    refine (takes164 s ⟨#[]⟩ hs (by decide) _ (hM.below' HB2.out)).mono ?_
    rintro e w3 ⟨rfl, hb⟩
    have HB3 := Lib.hid (HB2.out.trans (hb.mono HB2.out.size))
    clear hb
    go_wp2
    go_ret2
    exact ⟨ret_bb (by rw [HG.out, takesB4]; rfl) HG.out.symm, HB3.out⟩
end Go.Proofs.YtpbcgfgjdimpmaaDoor
