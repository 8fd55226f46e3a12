/- Plain mathematics for the laws FnMatches and FnLabelTexts: good labels without some names are good, a name left out is nothing, opposite kinds take the opposite. -/
import Derived.Test.YtpbcgfgjdimpmaaDoorDrawx
import Derived.Test.YtpbcgfgjdimpmaaDoorMatchx
import Derived.Test.YtpbcgfgjdimpmaaDoorLabMath
namespace Go.Proofs.YtpbcgfgjdimpmaaDoor
open Go.RowKit Go.Deep

theorem rises_strict : ∀ {l : List Lab}, rises l = true → strict l
  | [], _ => List.Pairwise.nil
  | [x], _ => List.pairwise_singleton _ _
  | x :: y :: l, h => by
    rw [rises, Bool.and_eq_true] at h
    have ih := rises_strict h.2
    refine List.Pairwise.cons ?_ ih
    intro z hz
    rcases List.mem_cons.1 hz with rfl | hz
    · exact h.1
    · exact less_trans h.1 ((List.pairwise_cons.1 ih).1 z hz)
theorem strict_rises : ∀ {l : List Lab}, strict l → rises l = true
  | [], _ => rfl
  | [x], _ => rfl
  | x :: y :: l, h => by
    have := List.pairwise_cons.1 h
    rw [rises, Bool.and_eq_true]
    exact ⟨this.1 y (by simp), strict_rises this.2⟩
theorem good_filter {l : List Lab} (h : goodB l = true) (p : Lab → Bool) : goodB (l.filter p) = true := by
  unfold goodB at h ⊢
  simp only [Bool.and_eq_true, decide_eq_true_eq, List.all_eq_true] at h ⊢
  refine ⟨⟨Nat.le_trans (List.length_filter_le _ _) h.1.1, fun x hx => h.1.2 x (List.mem_filter.1 hx).1⟩, strict_rises ((rises_strict h.2).sublist List.filter_sublist)⟩
theorem good_without {l : List Lab} (h : goodB l = true) (names : List ByteArray) : goodB (without l names) = true := good_filter h _
theorem isL_gone : ∀ {R : List Lab} {n : ByteArray}, (∀ y ∈ R, (y.1.toList == n.toList) = false) → isL R n = emp
  | [], _, _ => rfl
  | x :: R, n, h => by
    rw [isL, h x (by simp)]
    exact isL_gone (fun y hy => h y (List.mem_cons_of_mem _ hy))
theorem without_gone (l : List Lab) (n : ByteArray) : isL (without l [n]) n = emp := by
  refine isL_gone fun y hy => ?_
  have := (List.mem_filter.1 hy).2
  simpa [hasT] using this
def oppo (k : Int) : Int := if k = 1 then 2 else if k = 2 then 1 else if k = 3 then 4 else 3
theorem oppo_takes {k : Int} (h : kindB k = true) (s t : ByteArray) : takesB (oppo k) s t = !takesB k s t := by
  rcases kinds h with rfl | rfl | rfl | rfl
  · rfl
  · show takesB 1 s t = !takesB 2 s t
    rw [takesB1, takesB2, Bool.not_not]
  · rfl
  · show takesB 3 s t = !takesB 4 s t
    rw [takesB3, takesB4, Bool.not_not]
theorem oppo_kind {k : Int} (h : kindB k = true) : kindB (oppo k) = true := by
  rcases kinds h with rfl | rfl | rfl | rfl <;> rfl
theorem oppo_mat {k : Int} {n s : ByteArray} (h : matB (k, n, s) = true) : matB (oppo k, n, s) = true := by
  obtain ⟨h1, h2, h3⟩ : kindB k = true ∧ nameB n = true ∧ wordB s = true := by unfold matB at h; simpa only [Bool.and_eq_true] using h
  exact matB_yes (oppo_kind h1) h2 h3
theorem star_all (s : ByteArray) : likeS ⟨#[42]⟩ s = true := by
  unfold likeS
  show like [42] s.data.toList = true
  rw [like_star]
  exact ⟨s.data.toList, [], by simp, rfl⟩
theorem star_word : wordB ⟨#[42]⟩ = true := by decide
end Go.Proofs.YtpbcgfgjdimpmaaDoor
