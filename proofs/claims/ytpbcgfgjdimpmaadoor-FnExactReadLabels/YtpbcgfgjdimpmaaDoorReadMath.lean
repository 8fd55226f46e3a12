/- Plain mathematics of reading labels back: cutting at ',' and '"' finds the labels of a text, and of no other. -/
import Derived.Test.YtpbcgfgjdimpmaaDoorCuts
import Derived.Test.YtpbcgfgjdimpmaaDoorHash
import Derived.Test.YtpbcgfgjdimpmaaDoorLabMath
namespace Go.Proofs.YtpbcgfgjdimpmaaDoor
open Go.RowKit Go.Deep

theorem lab_parts {x : Lab} (h : labB x = true) : (∀ c ∈ x.1.data.toList, inName c.toNat = true) ∧ (∀ c ∈ x.2.data.toList, inWord c.toNat = true) ∧ 1 ≤ x.1.size ∧ 0 < x.2.size := by
  unfold labB nameB wordB allB at h
  simp only [Bool.and_eq_true, decide_eq_true_eq, List.all_eq_true] at h
  exact ⟨h.1.1.2, h.1.2.2, h.1.1.1.1.1, h.2⟩
theorem name_not {c : UInt8} (h : inName c.toNat = true) : c ≠ 44 ∧ c ≠ 34 ∧ c ≠ 61 := by
  refine ⟨?_, ?_, ?_⟩ <;> (rintro rfl; simp [inName] at h)
theorem word_not {c : UInt8} (h : inWord c.toNat = true) : c ≠ 44 ∧ c ≠ 34 := by
  refine ⟨?_, ?_⟩ <;> (rintro rfl; simp [inWord] at h)
theorem item_free {x : Lab} (h : labB x = true) : ∀ c ∈ labT x, c ≠ 44 := by
  obtain ⟨h1, h2, _⟩ := lab_parts h
  intro c hc
  unfold labT at hc
  simp only [List.mem_append, List.mem_cons, List.mem_nil_iff, or_false] at hc
  rcases hc with ((hc | rfl | rfl) | hc) | rfl
  · exact (name_not (h1 c hc)).1
  · decide
  · decide
  · exact (word_not (h2 c hc)).1
  · decide
theorem item_pieces {x : Lab} (h : labB x = true) : pieces 34 (labT x) = [x.1.data.toList ++ [61], x.2.data.toList, []] := by
  obtain ⟨h1, h2, _⟩ := lab_parts h
  have e : labT x = (x.1.data.toList ++ [61]) ++ 34 :: (x.2.data.toList ++ 34 :: []) := by simp [labT]
  rw [e, pieces_cut, pieces_cut]
  · rfl
  · intro c hc; exact (word_not (h2 c hc)).2
  · intro c hc
    rcases List.mem_append.1 hc with hc | hc
    · exact (name_not (h1 c hc)).2.1
    · rw [List.mem_singleton.1 hc]; decide
theorem pieces_items : ∀ {l : List Lab}, l ≠ [] → (∀ x ∈ l, labB x = true) → pieces 44 (Lib.join (l.map labT) [44]) = l.map labT
  | [], h, _ => absurd rfl h
  | [x], _, h => by rw [List.map_cons, List.map_nil, Lib.join_one, pieces_free (item_free (h x (by simp)))]
  | x :: y :: l, _, h => by
    have ih := pieces_items (l := y :: l) (by simp) (fun z hz => h z (List.mem_cons_of_mem _ hz))
    have e : Lib.join ((x :: y :: l).map labT) [44] = labT x ++ 44 :: Lib.join ((y :: l).map labT) [44] := by
      rw [List.map_cons, Lib.join_cons, List.map_cons, Lib.join_cons]
      simp [Lib.joinTail]
    rw [e, pieces_cut (item_free (h x (by simp))), ih]
    rfl
theorem good_labs {l : List Lab} (h : goodB l = true) : ∀ x ∈ l, labB x = true := by
  unfold goodB at h
  simp only [Bool.and_eq_true, List.all_eq_true] at h
  exact h.1.2
/-- The text between the braces. -/
def inner (D : List UInt8) : List UInt8 := (D.drop 1).take (D.length - 2)
theorem inner_text (l : List Lab) : inner (textL l) = Lib.join (l.map labT) [44] := by
  simp [inner, textL, headT]
theorem text_len (l : List Lab) : (textL l).length = (Lib.join (l.map labT) [44]).length + 2 := by simp [textL, headT]
theorem join_pos {l : List Lab} (h : l ≠ []) : 0 < (Lib.join (l.map labT) [44]).length := by
  cases l with
  | nil => exact absurd rfl h
  | cons x l => rw [List.map_cons, Lib.join_cons]; simp [labT]; omega
theorem braces {D : List UInt8} (h2 : 2 ≤ D.length) (h0 : D[0]'(by omega) = 123) (h1 : D[D.length - 1]'(by omega) = 125) : D = 123 :: inner D ++ [125] := by
  obtain ⟨a, r, rfl⟩ : ∃ a r, D = a :: r := by cases D with | nil => simp at h2 | cons a r => exact ⟨a, r, rfl⟩
  simp at h0
  subst h0
  have hr : r ≠ [] := by rintro rfl; simp at h2
  have e : r = r.dropLast ++ [r.getLast hr] := (List.dropLast_concat_getLast hr).symm
  have hl : r.getLast hr = 125 := by
    rw [← h1, List.getLast_eq_getElem]
    have : (123 :: r).length - 1 = (r.length - 1) + 1 := by
      have : 0 < r.length := List.length_pos_iff.2 hr
      simp; omega
    simp only [this, List.getElem_cons_succ]
  rw [hl] at e
  simp [inner]
  rw [List.dropLast_eq_take] at e
  exact e
/-- Read l out of D. -/
def Reads (D : List UInt8) (l : List Lab) : Prop := goodB l = true ∧ textL l = D
theorem labT_inj {x y : Lab} (hx : labB x = true) (hy : labB y = true) (h : labT x = labT y) : x = y := by
  have e := (item_pieces hx).symm.trans ((congrArg (pieces 34) h).trans (item_pieces hy))
  simp only [List.cons.injEq, and_true, List.append_cancel_right_eq] at e
  exact Prod.ext (data_eq e.1) (data_eq e.2)
theorem map_inj : ∀ {a b : List Lab}, (∀ x ∈ a, labB x = true) → (∀ x ∈ b, labB x = true) → a.map labT = b.map labT → a = b
  | [], [], _, _, _ => rfl
  | [], _ :: _, _, _, h => by simp at h
  | _ :: _, [], _, _, h => by simp at h
  | x :: a, y :: b, ha, hb, h => by
    simp only [List.map_cons, List.cons.injEq] at h
    rw [labT_inj (ha x (by simp)) (hb y (by simp)) h.1, map_inj (fun z hz => ha z (List.mem_cons_of_mem _ hz)) (fun z hz => hb z (List.mem_cons_of_mem _ hz)) h.2]
theorem reads_items {D : List UInt8} {l : List Lab} (h : Reads D l) (hl : l ≠ []) : pieces 44 (inner D) = l.map labT := by
  rw [← h.2, inner_text, pieces_items hl (good_labs h.1)]
theorem reads_unique {D : List UInt8} {a b : List Lab} (ha : Reads D a) (hb : Reads D b) : a = b := by
  have hlen := (text_len a).symm.trans ((congrArg List.length (ha.2.trans hb.2.symm)).trans (text_len b))
  by_cases ea : a = []
  · by_cases eb : b = []
    · rw [ea, eb]
    · have := join_pos eb
      rw [ea] at hlen
      have e0 : (Lib.join (List.map labT []) [44]).length = 0 := rfl
      omega
  · by_cases eb : b = []
    · have := join_pos ea
      rw [eb] at hlen
      have e0 : (Lib.join (List.map labT []) [44]).length = 0 := rfl
      omega
    · exact map_inj (good_labs ha.1) (good_labs hb.1) ((reads_items ha ea).symm.trans (reads_items hb eb))
/-- Labels that the pieces make, one by one. -/
theorem reads_of {D : List UInt8} {o : List Lab} (h2 : 2 ≤ D.length) (h0 : D[0]'(by omega) = 123) (h1 : D[D.length - 1]'(by omega) = 125) (ho : o.map labT = pieces 44 (inner D)) (hg : goodB o = true) : Reads D o := by
  refine ⟨hg, ?_⟩
  rw [braces h2 h0 h1, textL, headT, ho, pieces_join]
theorem item_of {w p0 p1 q : List UInt8} (h : pieces 34 w = [p0, p1, []]) (hq : p0 = q ++ [61]) : labT (⟨q.toArray⟩, ⟨p1.toArray⟩) = w := by
  have e := pieces_join (b := 34) w
  rw [h, hq, Lib.join_cons] at e
  rw [← e]
  simp [labT, Lib.joinTail]
theorem reads_empty : Reads [123, 125] [] := ⟨rfl, rfl⟩
end Go.Proofs.YtpbcgfgjdimpmaaDoor
