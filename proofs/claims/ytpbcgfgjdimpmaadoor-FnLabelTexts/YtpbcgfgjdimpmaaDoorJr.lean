/- Reading labels back in the program: splitting a text into labels, and that the labels of a text come out of it, over this seat's translation. -/
import Derived.Test.YtpbcgfgjdimpmaaDoorIs
import Derived.Test.YtpbcgfgjdimpmaaDoorJc
import Derived.Test.YtpbcgfgjdimpmaaDoorHash
import Derived.Test.YtpbcgfgjdimpmaaDoorSpecs
import Derived.StillTailTactics
import Derived.Test.YtpbcgfgjdimpmaaDoorForm
namespace Go.Proofs.YtpbcgfgjdimpmaaDoor
open Go.RowKit Go.Deep

theorem data_eq {a b : ByteArray} (h : a.data.toList = b.data.toList) : a = b := by
  cases a; cases b; simp at h; rw [h]
theorem eq_of_beq {a b : ByteArray} (h : (a.toList == b.toList) = true) : a = b := by
  have e : a.toList = b.toList := by simpa using h
  rw [Lib.toList_data, Lib.toList_data] at e
  exact data_eq e
theorem beq_of_ne {a b : ByteArray} (h : a ≠ b) : (a.toList == b.toList) = false := by
  cases hb : a.toList == b.toList with
  | false => rfl
  | true => exact absurd (eq_of_beq hb) h
end Go.Proofs.YtpbcgfgjdimpmaaDoor
namespace Go.Proofs.YtpbcgfgjdimpmaaDoor
open Go.RowKit Go.Deep

theorem lab_parts {x : Lab} (h : labB x = true) : (∀ c ∈ x.1.data.toList, inName c.toNat = true) ∧ (∀ c ∈ x.2.data.toList, inWord c.toNat = true) ∧ 1 ≤ x.1.size ∧ 0 < x.2.size := by
  unfold labB nameB wordB allB at h
  simp only [Bool.and_eq_true, decide_eq_true_eq, List.all_eq_true] at h
  exact ⟨h.1.1.2, h.1.2.2, h.1.1.1.1.1, h.2⟩
theorem name_not {c : UInt8} (h : inName c.toNat = true) : c ≠ 44 ∧ c ≠ 34 ∧ c ≠ 61 := by
  refine ⟨?_, ?_, ?_⟩ <;> (rintro rfl; simp [inName] at h)
theorem word_not {c : UInt8} (h : inWord c.toNat = true) : c ≠ 44 ∧ c ≠ 34 := by
  refine ⟨?_, ?_⟩ <;> (rintro rfl; simp [inWord] at h)
theorem item_free {x : Lab} (h : labB x = true) : ∀ c ∈ labT x, c ≠ 44 := by
  obtain ⟨h1, h2, _⟩ := lab_parts h
  intro c hc
  unfold labT at hc
  simp only [List.mem_append, List.mem_cons, List.mem_nil_iff, or_false] at hc
  rcases hc with ((hc | rfl | rfl) | hc) | rfl
  · exact (name_not (h1 c hc)).1
  · decide
  · decide
  · exact (word_not (h2 c hc)).1
  · decide
theorem item_pieces {x : Lab} (h : labB x = true) : pieces 34 (labT x) = [x.1.data.toList ++ [61], x.2.data.toList, []] := by
  obtain ⟨h1, h2, _⟩ := lab_parts h
  have e : labT x = (x.1.data.toList ++ [61]) ++ 34 :: (x.2.data.toList ++ 34 :: []) := by simp [labT]
  rw [e, pieces_cut, pieces_cut]
  · rfl
  · intro c hc; exact (word_not (h2 c hc)).2
  · intro c hc
    rcases List.mem_append.1 hc with hc | hc
    · exact (name_not (h1 c hc)).2.1
    · rw [List.mem_singleton.1 hc]; decide
theorem pieces_items : ∀ {l : List Lab}, l ≠ [] → (∀ x ∈ l, labB x = true) → pieces 44 (Lib.join (l.map labT) [44]) = l.map labT
  | [], h, _ => absurd rfl h
  | [x], _, h => by rw [List.map_cons, List.map_nil, Lib.join_one, pieces_free (item_free (h x (by simp)))]
  | x :: y :: l, _, h => by
    have ih := pieces_items (l := y :: l) (by simp) (fun z hz => h z (List.mem_cons_of_mem _ hz))
    have e : Lib.join ((x :: y :: l).map labT) [44] = labT x ++ 44 :: Lib.join ((y :: l).map labT) [44] := by
      rw [List.map_cons, Lib.join_cons, List.map_cons, Lib.join_cons]
      simp [Lib.joinTail]
    rw [e, pieces_cut (item_free (h x (by simp))), ih]
    rfl
theorem good_labs {l : List Lab} (h : goodB l = true) : ∀ x ∈ l, labB x = true := by
  unfold goodB at h
  simp only [Bool.and_eq_true, List.all_eq_true] at h
  exact h.1.2
/-- The text between the braces. -/
def inner (D : List UInt8) : List UInt8 := (D.drop 1).take (D.length - 2)
theorem inner_text (l : List Lab) : inner (textL l) = Lib.join (l.map labT) [44] := by
  simp [inner, textL, headT]
theorem text_len (l : List Lab) : (textL l).length = (Lib.join (l.map labT) [44]).length + 2 := by simp [textL, headT]
theorem join_pos {l : List Lab} (h : l ≠ []) : 0 < (Lib.join (l.map labT) [44]).length := by
  cases l with
  | nil => exact absurd rfl h
  | cons x l => rw [List.map_cons, Lib.join_cons]; simp [labT]; omega
theorem braces {D : List UInt8} (h2 : 2 ≤ D.length) (h0 : D[0]'(by omega) = 123) (h1 : D[D.length - 1]'(by omega) = 125) : D = 123 :: inner D ++ [125] := by
  obtain ⟨a, r, rfl⟩ : ∃ a r, D = a :: r := by cases D with | nil => simp at h2 | cons a r => exact ⟨a, r, rfl⟩
  simp at h0
  subst h0
  have hr : r ≠ [] := by rintro rfl; simp at h2
  have e : r = r.dropLast ++ [r.getLast hr] := (List.dropLast_concat_getLast hr).symm
  have hl : r.getLast hr = 125 := by
    rw [← h1, List.getLast_eq_getElem]
    have : (123 :: r).length - 1 = (r.length - 1) + 1 := by
      have : 0 < r.length := List.length_pos_iff.2 hr
      simp; omega
    simp only [this, List.getElem_cons_succ]
  rw [hl] at e
  simp [inner]
  rw [List.dropLast_eq_take] at e
  exact e
/-- Read l out of D. -/
def Reads (D : List UInt8) (l : List Lab) : Prop := goodB l = true ∧ textL l = D
theorem labT_inj {x y : Lab} (hx : labB x = true) (hy : labB y = true) (h : labT x = labT y) : x = y := by
  have e := (item_pieces hx).symm.trans ((congrArg (pieces 34) h).trans (item_pieces hy))
  simp only [List.cons.injEq, and_true, List.append_cancel_right_eq] at e
  exact Prod.ext (data_eq e.1) (data_eq e.2)
theorem map_inj : ∀ {a b : List Lab}, (∀ x ∈ a, labB x = true) → (∀ x ∈ b, labB x = true) → a.map labT = b.map labT → a = b
  | [], [], _, _, _ => rfl
  | [], _ :: _, _, _, h => by simp at h
  | _ :: _, [], _, _, h => by simp at h
  | x :: a, y :: b, ha, hb, h => by
    simp only [List.map_cons, List.cons.injEq] at h
    rw [labT_inj (ha x (by simp)) (hb y (by simp)) h.1, map_inj (fun z hz => ha z (List.mem_cons_of_mem _ hz)) (fun z hz => hb z (List.mem_cons_of_mem _ hz)) h.2]
theorem reads_items {D : List UInt8} {l : List Lab} (h : Reads D l) (hl : l ≠ []) : pieces 44 (inner D) = l.map labT := by
  rw [← h.2, inner_text, pieces_items hl (good_labs h.1)]
theorem reads_unique {D : List UInt8} {a b : List Lab} (ha : Reads D a) (hb : Reads D b) : a = b := by
  have hlen := (text_len a).symm.trans ((congrArg List.length (ha.2.trans hb.2.symm)).trans (text_len b))
  by_cases ea : a = []
  · by_cases eb : b = []
    · rw [ea, eb]
    · have := join_pos eb
      rw [ea] at hlen
      have e0 : (Lib.join (List.map labT []) [44]).length = 0 := rfl
      omega
  · by_cases eb : b = []
    · have := join_pos ea
      rw [eb] at hlen
      have e0 : (Lib.join (List.map labT []) [44]).length = 0 := rfl
      omega
    · exact map_inj (good_labs ha.1) (good_labs hb.1) ((reads_items ha ea).symm.trans (reads_items hb eb))
/-- Labels that the pieces make, one by one. -/
theorem reads_of {D : List UInt8} {o : List Lab} (h2 : 2 ≤ D.length) (h0 : D[0]'(by omega) = 123) (h1 : D[D.length - 1]'(by omega) = 125) (ho : o.map labT = pieces 44 (inner D)) (hg : goodB o = true) : Reads D o := by
  refine ⟨hg, ?_⟩
  rw [braces h2 h0 h1, textL, headT, ho, pieces_join]
theorem item_of {w p0 p1 q : List UInt8} (h : pieces 34 w = [p0, p1, []]) (hq : p0 = q ++ [61]) : labT (⟨q.toArray⟩, ⟨p1.toArray⟩) = w := by
  have e := pieces_join (b := 34) w
  rw [h, hq, Lib.join_cons] at e
  rw [← e]
  simp [labT, Lib.joinTail]
theorem reads_empty : Reads [123, 125] [] := ⟨rfl, rfl⟩
end Go.Proofs.YtpbcgfgjdimpmaaDoor
namespace Go.Proofs.YtpbcgfgjdimpmaaDoor
open Go.RowKit Go.Deep

/-- What reading labels comes to, in the program and in the model. -/
def ReadEnd (D : List UInt8) (w : World) (e : Ending) (w' : World) : Prop :=
  ∃ v r l, e = .returned (.tuple #[v, .bool r]) ∧ w'.ownsRow w.heap.size 82 2 v l.length (cellsOf l) ∧ Below w.heap.size w w' ∧ (r = true → Reads D l) ∧ (r = false → l = [] ∧ ∀ o, ¬ Reads D o)
theorem readEnd_no {D : List UInt8} {w w' : World} (h : ∀ o, ¬ Reads D o) (hb : Below w.heap.size w w') : ReadEnd D w (.returned (.tuple #[.slice none 0 0, .bool false])) w' :=
  ⟨_, false, [], rfl, World.ownsRow_nil _ _ _ _, hb, fun h => (by cases h), fun _ => ⟨rfl, h⟩⟩
theorem readEnd_yes {D : List UInt8} {w w' : World} {v : Value} {l : List Lab} (h : Reads D l) (ho : w'.ownsRow w.heap.size 82 2 v l.length (cellsOf l)) (hb : Below w.heap.size w w') : ReadEnd D w (.returned (.tuple #[v, .bool true])) w' :=
  ⟨_, true, l, rfl, ho, hb, fun _ => h, fun h => (by cases h)⟩
theorem pieces_le {b : UInt8} : ∀ (s : List UInt8), (pieces b s).length ≤ s.length + 1 ∧ ∀ p ∈ pieces b s, p.length ≤ s.length
  | [] => by simp [pieces]
  | x :: s => by
    obtain ⟨h1, h2⟩ := pieces_le (b := b) s
    obtain ⟨p, ps, h⟩ := pieces_some b s
    rw [pieces]
    rw [h] at h1 h2 ⊢
    by_cases e : x = b
    · rw [if_pos e]
      refine ⟨by simp at h1 ⊢; omega, fun q hq => ?_⟩
      rcases List.mem_cons.1 hq with rfl | hq
      · simp
      · have := h2 q hq; simp; omega
    · rw [if_neg e]
      refine ⟨by simp at h1 ⊢; omega, fun q hq => ?_⟩
      rcases List.mem_cons.1 hq with rfl | hq
      · have := h2 p (by simp); simp; omega
      · have := h2 q (List.mem_cons_of_mem _ hq); simp; omega
def bs (ws : List (List UInt8)) : List ByteArray := ws.map fun p => ⟨p.toArray⟩
theorem strs_bs (ws : List (List UInt8)) : strs ws = (bs ws).map Value.string := by simp [strs, bs]
theorem read_len {D : List UInt8} {o : List Lab} (h : Reads D o) : 2 ≤ D.length ∧ D.length ≤ 200 := by
  have h1 := textS_size h.1
  have h2 : (textS o).size = (textL o).length := by simp [textS, ByteArray.size]
  have h3 := text_len o
  rw [h.2] at h2 h3
  omega
theorem read_first {D : List UInt8} {o : List Lab} (h : Reads D o) (hl : 0 < D.length) : D[0] = 123 := by
  have := h.2
  subst this
  simp [textL, headT]
theorem read_last {D : List UInt8} {o : List Lab} (h : Reads D o) (hl : D.length - 1 < D.length) : D[D.length - 1] = 125 := by
  have := h.2
  subst this
  simp [textL]
theorem read_two {D : List UInt8} (h : D.length = 2) (h0 : D[0]'(by omega) = 123) (h1 : D[D.length - 1]'(by omega) = 125) : Reads D [] := by
  have e := braces (by omega) h0 h1
  have : inner D = [] := by simp [inner, h]
  rw [this] at e
  rw [e]
  exact reads_empty

theorem last_conv {s : ByteArray} {m : Nat} (hm : m + 1 = s.size) (h : m < s.size) (h' : s.data.toList.length - 1 < s.data.toList.length) : s[m] = s.data.toList[s.data.toList.length - 1] := by
  have e := size_len s
  rw [byte_at s h]
  congr 1
  omega
theorem inner_extract {s : ByteArray} {m : Nat} (hm : m + 1 = s.size) : (s.extract 1 m).data.toList = inner s.data.toList := by
  have e := size_len s
  rw [extract_pieces]
  show (s.data.toList.drop 1).take (m - 1) = (s.data.toList.drop 1).take (s.data.toList.length - 2)
  congr 1
  omega
theorem split44 (s : ByteArray) (hs : s.size ≤ 1048576) (w : World) : Calls Tryd.prog 73 #[.string s, .int .u8 44] w (Cutted 44 s.data.toList w) := split80 s 44 hs w
theorem split34 (s : ByteArray) (hs : s.size ≤ 1048576) (w : World) : Calls Tryd.prog 73 #[.string s, .int .u8 34] w (Cutted 34 s.data.toList w) := split80 s 34 hs w
theorem cut_row {w : World} {base : Nat} {v : Value} {ws : List (List UInt8)} (h : w.ownsRow base 9 1 v ws.length (strs ws)) : ∃ ao c, v = .slice ao ws.length c ∧ TRow w w.heap.size ao (bs ws) := by
  obtain ⟨ao, c, rfl⟩ := own_slice9 h
  rw [strs_bs] at h
  exact ⟨ao, c, rfl, (TRow.of_own h).2⟩
theorem bs_at {ws : List (List UInt8)} {k : Nat} (h : k < ws.length) (h' : k < (bs ws).length) : (bs ws)[k] = ⟨ws[k].toArray⟩ := by simp [bs]
theorem bs_len (ws : List (List UInt8)) : (bs ws).length = ws.length := by simp [bs]
/-- Its own text is cut into its own parts. -/
def Itemed (x : Lab) : Prop := pieces 34 (labT x) = [x.1.data.toList ++ [61], x.2.data.toList, []]
theorem item_inj {x y : Lab} (hx : Itemed x) (hy : Itemed y) (h : labT x = labT y) : x = y := by
  have e := hx.symm.trans ((congrArg (pieces 34) h).trans hy)
  simp only [List.cons.injEq, and_true, List.append_cancel_right_eq] at e
  exact Prod.ext (data_eq e.1) (data_eq e.2)
theorem items_inj : ∀ {a b : List Lab}, (∀ x ∈ a, Itemed x) → (∀ x ∈ b, Itemed x) → a.map labT = b.map labT → a = b
  | [], [], _, _, _ => rfl
  | [], _ :: _, _, _, h => by simp at h
  | _ :: _, [], _, _, h => by simp at h
  | x :: a, y :: b, ha, hb, h => by
    simp only [List.map_cons, List.cons.injEq] at h
    rw [item_inj (ha x (by simp)) (hb y (by simp)) h.1, items_inj (fun z hz => ha z (List.mem_cons_of_mem _ hz)) (fun z hz => hb z (List.mem_cons_of_mem _ hz)) h.2]
theorem three_of {ps : List (List UInt8)} (h : ps.length = 3) : ∃ y0 y1 y2 : ByteArray, ps = [y0.data.toList, y1.data.toList, y2.data.toList] := by
  match ps, h with
  | [a, b, c], _ => exact ⟨⟨a.toArray⟩, ⟨b.toArray⟩, ⟨c.toArray⟩, by simp⟩
def badItem0 (ps : List (List UInt8)) : Prop := ∀ x : Lab, 1 ≤ x.1.size → ps ≠ [x.1.data.toList ++ [61], x.2.data.toList, []]
theorem bad_len {ps : List (List UInt8)} (h : ps.length ≠ 3) : badItem0 ps := fun x _ e => h (by rw [e]; rfl)
theorem bad_third {y0 y1 y2 : ByteArray} (h : 0 < y2.size) : badItem0 [y0.data.toList, y1.data.toList, y2.data.toList] := fun x _ e => by
  simp only [List.cons.injEq, and_true] at e
  have := size_len y2
  rw [e.2.2] at this
  have h9 : y2.size = 0 := this
  omega
theorem bad_short {y0 y1 y2 : ByteArray} (h : y0.size < 2) : badItem0 [y0.data.toList, y1.data.toList, y2.data.toList] := fun x hx e => by
  simp only [List.cons.injEq, and_true] at e
  have h0 := size_len y0
  have h1 := size_len x.1
  rw [e.1, List.length_append] at h0
  simp only [List.length_cons, List.length_nil] at h0
  omega
theorem bad_last {y0 y1 y2 : ByteArray} {m : Nat} (hm : m + 1 = y0.size) (hl : m < y0.size) (h : y0[m] ≠ 61) : badItem0 [y0.data.toList, y1.data.toList, y2.data.toList] := fun x _ e => by
  simp only [List.cons.injEq, and_true] at e
  have h0 := size_len y0
  refine h ?_
  rw [byte_at y0 hl]
  have hx : m = x.1.data.toList.length := by
    rw [e.1, List.length_append] at h0
    simp only [List.length_cons, List.length_nil] at h0
    omega
  have e' := e.1
  subst hx
  simp only [e']
  simp
theorem made_item {y0 y1 : ByteArray} {m : Nat} {wk : List UInt8} (hm : m + 1 = y0.size) (hl : m < y0.size) (h : y0[m] = 61) (hp : pieces 34 wk = [y0.data.toList, y1.data.toList, []]) : labT (y0.extract 0 m, y1) = wk ∧ Itemed (y0.extract 0 m, y1) := by
  have h0 := size_len y0
  have hq : y0.data.toList = (y0.extract 0 m).data.toList ++ [61] := by
    rw [extract_pieces]
    show y0.data.toList = (y0.data.toList.drop 0).take (m - 0) ++ [61]
    rw [List.drop_zero, Nat.sub_zero]
    conv => lhs; rw [← List.take_append_drop m y0.data.toList]
    congr 1
    rw [List.drop_eq_getElem_cons (by omega), ← byte_at y0 hl, h, List.drop_eq_nil_of_le (by omega)]
  have hw : labT (y0.extract 0 m, y1) = wk := by
    have := item_of (q := (y0.extract 0 m).data.toList) hp hq
    have e1 : (⟨((y0.extract 0 m).data.toList).toArray⟩ : ByteArray) = y0.extract 0 m := str_ext rfl
    have e2 : (⟨y1.data.toList.toArray⟩ : ByteArray) = y1 := str_ext rfl
    rw [e1, e2] at this
    exact this
  refine ⟨hw, ?_⟩
  unfold Itemed
  rw [hw, hp, hq]
theorem fit_items {ws : List (List UInt8)} {o : List Lab} (hM : o.map labT = ws) (hw : ∀ p ∈ ws, p.length ≤ 400) (hl : o.length ≤ 401) : Fit o := ⟨by omega, fun x hx => by
  have h1 := hw (labT x) (by rw [← hM]; exact List.mem_map_of_mem hx)
  unfold labT at h1
  simp only [List.length_append, List.length_cons, List.length_nil] at h1
  have e1 := size_len x.1
  have e2 := size_len x.2
  omega⟩
/-- Why the pieces of a piece make no label. -/
abbrev badItem := badItem0
theorem no_item {D : List UInt8} {k : Nat} (h2 : D.length ≠ 2) (hk : k < (pieces 44 (inner D)).length) (hb : badItem (pieces 34 (pieces 44 (inner D))[k])) : ∀ o, ¬ Reads D o := by
  intro o ho
  by_cases e : o = []
  · have := text_len o
    rw [ho.2, e] at this
    exact h2 (by rw [this]; rfl)
  · have hi := reads_items ho e
    have hko : k < o.length := by rw [hi] at hk; simpa using hk
    have hx := good_labs ho.1 _ (List.getElem_mem hko)
    refine hb o[k] (lab_parts hx).2.2.1 ?_
    rw [← item_pieces hx]
    congr 1
    simp [hi]

end Go.Proofs.YtpbcgfgjdimpmaaDoor
namespace Go.Proofs.YtpbcgfgjdimpmaaDoor
open Go.RowKit Go.Deep

theorem src_new (w : World) (a b : Value) : Src (w.alloc (.cells #[a, b] 82)) (some ⟨w.heap.size, 0, none⟩) 1 [a, b] := by
  refine ⟨rfl, fun ad had j u hj => ?_⟩
  injection had with had
  subst had
  exact new_pair j u hj
set_option maxHeartbeats 8000000 in
set_option maxRecDepth 100000 in
theorem read36 (s : ByteArray) (hs : s.size ≤ 1048576) (w : World) : Calls Tryd.prog 23 #[.string s] w (ReadEnd s.data.toList w) := by
  have hDs := size_len s
  by_cases h12 : 2 ≤ s.size ∧ s.size ≤ 400
  case neg =>
    have hd : (decide ((2 : Int) ≤ (s.size : Int)) && decide ((s.size : Int) ≤ 400)) = false := by simp; omega
    have HD := Lib.hid hd
    have HE : Hid (ReadEnd s.data.toList w (.returned (.tuple #[.slice none 0 0, .bool false])) w) := Lib.hid (readEnd_no (fun o ho => by have := read_len ho; omega) (Below.refl _ _))
    clear hd hDs
    go_enter Tryd.func23, Tryd.ntmps23
    go_wp2_with fail
    refine (in79 _ _ _ _).mono ?_
    rw [HD.out]
    rintro e w1 ⟨rfl, rfl⟩
    go_wp2
    go_ret2
    exact HE.out
  obtain ⟨h2, h400⟩ := h12
  have hd : (decide ((2 : Int) ≤ (s.size : Int)) && decide ((s.size : Int) ≤ 400)) = true := by simp; omega
  have HD := Lib.hid hd
  have h0 : 0 < s.size := by omega
  obtain ⟨m, hm⟩ : ∃ m, m + 1 = s.size := ⟨s.size - 1, by omega⟩
  have hl : m < s.size := by omega
  have hm1 : 1 ≤ m := by omega
  have hm2 : (1 : Int) ≤ (m : Int) := by omega
  have hm3 : (m : Int) ≤ (s.size : Int) := by omega
  have hwr : IntKind.i64.wrap ((s.size : Int) - 1) = (m : Int) := by rw [IntWalk.i64_in _ (by omega)]; omega
  have HM := Lib.hid hm
  clear hm
  have HDs := Lib.hid hDs
  clear hd hDs
  by_cases hf : s[0]'h0 = 123
  case neg =>
    have hq : (((s[0]'h0).toNat : Int) != 123) = true := by rw [bne_iff_ne]; intro h; exact hf (UInt8.toNat_inj.1 (by have h' : (s[0]'h0).toNat = 123 := (by omega); rw [h']; rfl))
    have HE : Hid (ReadEnd s.data.toList w (.returned (.tuple #[.slice none 0 0, .bool false])) w) := Lib.hid (readEnd_no (fun o ho => hf (read_first ho (by rw [← HDs.out]; exact h0))) (Below.refl _ _))
    clear hf
    go_enter Tryd.func23, Tryd.ntmps23
    go_wp2_with fail
    refine (in79 _ _ _ _).mono ?_
    rw [HD.out]
    rintro e w1 ⟨rfl, rfl⟩
    go_wp2
    go_ret2
    exact HE.out
  have hq0 : (((s[0]'h0).toNat : Int) != 123) = false := by rw [hf]; rfl
  have HF := Lib.hid hf
  clear hf
  by_cases hg : s[m]'hl = 125
  case neg =>
    have hq : (((s[m]'hl).toNat : Int) != 125) = true := by rw [bne_iff_ne]; intro h; exact hg (UInt8.toNat_inj.1 (by have h' : (s[m]'hl).toNat = 125 := (by omega); rw [h']; rfl))
    have HE : Hid (ReadEnd s.data.toList w (.returned (.tuple #[.slice none 0 0, .bool false])) w) := Lib.hid (readEnd_no (fun o ho => hg ((last_conv HM.out hl (by rw [← HDs.out]; omega)).trans (read_last ho _))) (Below.refl _ _))
    clear hg
    go_enter Tryd.func23, Tryd.ntmps23
    go_wp2_with fail
    refine (in79 _ _ _ _).mono ?_
    rw [HD.out]
    rintro e w1 ⟨rfl, rfl⟩
    go_wp2
    go_ret2
    exact HE.out
  have hq1 : (((s[m]'hl).toNat : Int) != 125) = false := by rw [hg]; rfl
  have HG : Hid (s.data.toList[s.data.toList.length - 1]'(by rw [← HDs.out]; omega) = 125) := Lib.hid ((last_conv HM.out hl (by rw [← HDs.out]; omega)).symm.trans hg)
  clear hg
  by_cases h22 : s.size = 2
  · have HE : Hid (ReadEnd s.data.toList w (.returned (.tuple #[.slice none 0 0, .bool true])) w) := Lib.hid (readEnd_yes (read_two (by rw [← HDs.out]; exact h22) HF.out HG.out) (World.ownsRow_nil _ _ _ _) (Below.refl _ _))
    have h22' : ((s.size : Int) == 2) = true := by simp; omega
    clear h22
    go_enter Tryd.func23, Tryd.ntmps23
    go_wp2_with fail
    refine (in79 _ _ _ _).mono ?_
    rw [HD.out]
    rintro e w1 ⟨rfl, rfl⟩
    go_wp2
    go_ret2
    exact HE.out
  have h22' : ((s.size : Int) == 2) = false := by simp; omega
  go_enter Tryd.func23, Tryd.ntmps23
  go_wp2_with fail
  refine (in79 _ _ _ _).mono ?_
  rw [HD.out]
  rintro e w1 ⟨rfl, rfl⟩
  go_wp2_with fail
  have hez : (s.extract 1 m).size ≤ 400 := by rw [ByteArray.size_extract]; omega
  refine (split44 (s.extract 1 m) (by omega) w).mono ?_
  rw [inner_extract HM.out]
  rintro e w2 ⟨v2, rfl, ho2, hb2⟩
  have HPL := Lib.hid (pieces_le (b := 44) (inner s.data.toList))
  have HNo : Hid (∀ k (hk : k < (pieces 44 (inner s.data.toList)).length), badItem (pieces 34 (pieces 44 (inner s.data.toList))[k]) → ∀ o, ¬ Reads s.data.toList o) := Lib.hid fun k hk hbad => no_item (by rw [← HDs.out]; exact h22) hk hbad
  have HYes : Hid (∀ o, o.map labT = pieces 44 (inner s.data.toList) → goodB o = true → Reads s.data.toList o) := Lib.hid fun o ho hg => reads_of (by rw [← HDs.out]; exact h2) HF.out HG.out ho hg
  have HNg : Hid (∀ o, (∀ x ∈ o, Itemed x) → o.map labT = pieces 44 (inner s.data.toList) → goodB o = false → ∀ q, ¬ Reads s.data.toList q) := Lib.hid fun o hit ho hg q hq => by
    by_cases e : q = []
    · have := text_len q
      rw [hq.2, e] at this
      exact h22 (by rw [HDs.out, this]; rfl)
    · have h1 := ho.trans (reads_items hq e)
      have := items_inj hit (fun x hx => item_pieces (good_labs hq.1 x hx)) h1
      rw [this, hq.1] at hg
      cases hg
  have hil : (inner s.data.toList).length ≤ 400 := by
    have e1 : (s.extract 1 m).size = (s.extract 1 m).data.toList.length := size_len _
    rw [inner_extract HM.out] at e1
    omega
  generalize pieces 44 (inner s.data.toList) = ws at ho2 HPL HNo HYes HNg
  have hwl : ws.length ≤ 401 := by have := HPL.out.1; omega
  have HWp : Hid (∀ p ∈ ws, p.length ≤ 400) := Lib.hid fun p hp => by have := HPL.out.2 p hp; omega
  obtain ⟨va, vc, rfl, hR⟩ := cut_row ho2
  have HRow := Lib.hid hR
  have HB := Lib.hid hb2
  clear ho2 hb2 hR HPL hez hil h22 h22' hq0 hq1
  obtain ⟨i0, hi0, hz0, hz1, hz2⟩ := info_parts Tryd.info82
  go_wp2_with fail
  go_loopw [5, 34] (fun v i wr => ∃ (k : Nat) (o : List Lab), k ≤ ws.length ∧ o.length = k ∧ i = .int .i64 k ∧ Hid (o.map labT = ws.take k) ∧ Hid (∀ x ∈ o, Itemed x) ∧ Hid (wr.ownsRow w2.heap.size 82 2 v o.length (cellsOf o)) ∧ Hid (Below w2.heap.size w2 wr)) (fun _ i _ => ws.length - (intOf i).toNat)
  case atStart => exact ⟨0, [], Nat.zero_le _, rfl, rfl, by simp [Hid], (fun x hx => by simp at hx), World.ownsRow_nil _ _ _ _, Below.refl _ _⟩
  case round =>
    obtain ⟨k, o, hk, hok, rfl, hM, hIt, hO, hb⟩ := hrel
    by_cases hlt : k < ws.length
    · obtain ⟨g, off, hao, hgl, hc⟩ := HRow.out (by rw [bs_len]; omega)
      subst hao
      have hc0 := hc k (by rw [bs_len]; exact hlt)
      rw [bs_at hlt] at hc0
      have c0 := (hb.out.cell (p := ⟨g, off + k, none⟩) hgl).trans hc0
      have hpl := HWp.out _ (List.getElem_mem hlt)
      have HNk := Lib.hid (HNo.out k hlt)
      have HTk : Hid (∀ x, labT x = ws[k] → ∀ o' : List Lab, o'.map labT = ws.take k → (o' ++ [x]).map labT = ws.take (k + 1)) := Lib.hid fun x hx o' ho' => by
        rw [List.map_append, ho', List.take_succ_eq_append_getElem hlt, ← hx]; rfl
      clear hc hc0
      generalize ws[k] = wk at c0 hpl HNk HTk
      have hsz : (⟨wk.toArray⟩ : ByteArray).size ≤ 1048576 := by rw [size_len]; simp; omega
      have HBw := Lib.hid (HB.out.trans (hb.out.mono HB.out.size))
      go_wp2_with fail
      refine (split34 ⟨wk.toArray⟩ hsz _).mono ?_
      rintro e w3 ⟨v3, rfl, ho3, hb3⟩
      have hwk : (⟨wk.toArray⟩ : ByteArray).data.toList = wk := by simp
      rw [hwk] at ho3
      have HGe := Lib.hid (fun g hg => (ho3.lt g hg).1)
      have HVl := Lib.hid (fun g hg => (hO.out.lt g hg).2)
      obtain ⟨pa, pc, rfl, hR3⟩ := cut_row ho3
      have HR3 := Lib.hid hR3
      replace HBw := Lib.hid (HBw.out.trans (hb3.mono HBw.out.size))
      have HB3 := Lib.hid (hb.out.trans (hb3.mono hb.out.size))
      have HO3 := Lib.hid (own_below hO.out hb3)
      have hPs := (pieces_le (b := 34) wk).1
      have HIO : Hid (∀ p0 p1 q : List UInt8, pieces 34 wk = [p0, p1, []] → p0 = q ++ [61] → labT (⟨q.toArray⟩, ⟨p1.toArray⟩) = wk) := Lib.hid fun p0 p1 q h hq => item_of h hq
      clear hwk ho3 hb3 hR3
      have HPk : Hid (pieces 34 wk = pieces 34 wk) := rfl
      generalize hps : pieces 34 wk = ps at HNk HR3 hPs
      have HPs := Lib.hid hps
      clear hps HPk
      by_cases h3 : ps.length = 3
      case neg =>
        have hq : ((ps.length : Int) != 3) = true := by rw [bne_iff_ne]; omega
        have HE : ∀ q, Hid (ReadEnd s.data.toList w (.returned (.tuple #[.slice none 0 0, .bool false])) (w3.drewN q)) := fun q => Lib.hid (readEnd_no (HNk.out (bad_len h3)) (below_drewN HBw.out q))
        have HE' := Lib.hid HE
        clear h3 HE
        go_wp2_with fail
        go_quiet (fail)
        go_wp2_with fail
        go_ret2
        exact (HE'.out _).out
      obtain ⟨y0, y1, y2, hps⟩ := three_of h3
      obtain ⟨g3, off3, hpa, hg3, hc3⟩ := HR3.out (by rw [bs_len]; omega)
      subst hpa
      rw [h3]
      subst hps
      have d0 : w3.cell? ⟨g3, off3, none⟩ = some (.string y0) := by have := hc3 0 (by simp [bs]); simpa [bs] using this
      have d1 : w3.cell? ⟨g3, off3 + 1, none⟩ = some (.string y1) := by have := hc3 1 (by simp [bs]); simpa [bs] using this
      have d2 : w3.cell? ⟨g3, off3 + 2, none⟩ = some (.string y2) := by have := hc3 2 (by simp [bs]); simpa [bs] using this
      clear hc3 h3 HR3 hPs c0
      by_cases hy2 : 0 < y2.size
      · have he := nonempty_of hy2
        have HE' : Hid (∀ q, ReadEnd s.data.toList w (.returned (.tuple #[.slice none 0 0, .bool false])) (w3.drewN q)) := Lib.hid fun q => readEnd_no (HNk.out (bad_third hy2)) (below_drewN HBw.out q)
        go_wp2_with fail
        go_quiet (fail)
        go_wp2_with fail
        go_ret2
        exact HE'.out _
      have he := empty_of (s := y2) (by omega)
      have hy2e : Hid (y2.data.toList = []) := Lib.hid (List.eq_nil_of_length_eq_zero (by rw [← size_len]; omega))
      by_cases hy0 : y0.size < 2
      · have hyi : (y0.size : Int) < 2 := by omega
        have HE' : Hid (∀ q, ReadEnd s.data.toList w (.returned (.tuple #[.slice none 0 0, .bool false])) (w3.drewN q)) := Lib.hid fun q => readEnd_no (HNk.out (bad_short hy0)) (below_drewN HBw.out q)
        go_wp2_with fail
        go_quiet (fail)
        go_wp2_with fail
        go_ret2
        exact HE'.out _
      obtain ⟨m0, hm0⟩ : ∃ m0, m0 + 1 = y0.size := ⟨y0.size - 1, by omega⟩
      have hml : m0 < y0.size := by omega
      have hyb : y0.size ≤ 1048576 := by
        have e1 := size_len y0
        have := (pieces_le (b := 34) wk).2 y0.data.toList (by rw [HPs.out]; simp)
        omega
      have hwr0 : IntKind.i64.wrap ((y0.size : Int) - 1) = (m0 : Int) := by rw [IntWalk.i64_in _ (by omega)]; omega
      have hm03 : (m0 : Int) ≤ (y0.size : Int) := by omega
      have HM0 := Lib.hid hm0
      have hy3 : ¬ (y0.size : Int) < 2 := by omega
      have hy4 : decide (y0.size < 2) = false := by simpa using hy0
      have hm04 : 1 ≤ y0.size := by omega
      clear hm0
      by_cases hy61 : y0[m0]'hml = 61
      case neg =>
        have hq : (((y0[m0]'hml).toNat : Int) != 61) = true := by rw [bne_iff_ne]; intro h; exact hy61 (UInt8.toNat_inj.1 (by have h' : (y0[m0]'hml).toNat = 61 := (by omega); rw [h']; rfl))
        have HE' : Hid (∀ q, ReadEnd s.data.toList w (.returned (.tuple #[.slice none 0 0, .bool false])) (w3.drewN q)) := Lib.hid fun q => readEnd_no (HNk.out (bad_last HM0.out hml hy61)) (below_drewN HBw.out q)
        go_wp2_with fail
        go_quiet (fail)
        go_wp2_with fail
        go_ret2
        exact HE'.out _
      have hq : (((y0[m0]'hml).toNat : Int) != 61) = false := by rw [hy61]; rfl
      have HIt2 := Lib.hid (made_item (y1 := y1) HM0.out hml hy61 (by rw [HPs.out, hy2e.out]))
      clear hy61
      go_wp2_with fail
      go_quiet (fail)
      go_upto_region 13 with fail
      have d0' : (w3.drewN nq).cell? ⟨g3, off3, none⟩ = some (.string y0) := d0
      have d1' : (w3.drewN nq).cell? ⟨g3, off3 + 1, none⟩ = some (.string y1) := d1
      have HO4 : Hid ((w3.drewN nq).ownsRow w2.heap.size 82 2 _ o.length (cellsOf o)) := HO3
      have HB4 := Lib.hid (below_drewN HB3.out nq)
      have HBw4 := Lib.hid (below_drewN HBw.out nq)
      generalize w3.drewN nq = w4 at d0' d1' HO4 HB4 HBw4 ⊢
      clear d0 d1 d2
      have hg4 : g3 < w4.heap.size := World.block_lt_of_cell? w4 _ d0'
      have hge := HB4.out.size
      have hol : o.length + 1 ≤ 1048576 := by omega
      have hmN : m0 ≤ y0.size := by omega
      have hge3 := HGe.out g3 rfl
      have hneB : some g3 ≠ Value.ownBlock _ := fun e => by have := HVl.out g3 e.symm; omega
      have a0 := (((Below.refl w4.heap.size w4).alloc (Nat.le_refl _) (.cells #[.string (y0.extract 0 m0), .string y1] 82)).cell (p := ⟨g3, off3, none⟩) hg4).trans d0'
      have a1 := (((Below.refl w4.heap.size w4).alloc (Nat.le_refl _) (.cells #[.string (y0.extract 0 m0), .string y1] 82)).cell (p := ⟨g3, off3 + 1, none⟩) hg4).trans d1'
      go_region_held3 (fun w' => w'.cell? ⟨g3, off3, none⟩ = some (.string y0) ∧ w'.cell? ⟨g3, off3 + 1, none⟩ = some (.string y1)) (first | go_keep | exact ⟨e6, f6⟩) (first
        | (refine step_append_src _ rfl (.tmp 68) (.tmp 82) rfl rfl w2.heap.size _ o.length (cellsOf o) rfl (HO4.out.alloc _) (some ⟨w4.heap.size, 0, none⟩) 1 1 [.string (y0.extract 0 m0), .string y1] rfl (src_new w4 _ _) (fun h => by cases h) pair_one (by omega) (by simp; omega) ?_; intro v6 w6 hown6 hg6 hk6; have e6 := hg6.cell a0 hneB; have f6 := hg6.cell a1 hneB; have HG6 := Lib.hid hg6; have HO6 := Lib.hid hown6; clear hg6 hown6 hk6))
      have HVg := Lib.hid (fun g hg => (HO4.out.lt g hg).1)
      have HBz := Lib.hid ((HB4.out.alloc HB4.out.size (.cells #[.string (y0.extract 0 m0), .string y1] 82)).drew)
      have HB6 := Lib.hid (HBz.out.grown HG6.out HBz.out.size HVg.out)
      clear e6 f6 HG6 a0 a1 d0' d1'
      go_wp2
      go_roundw
      case rel => exact ⟨k + 1, o ++ [(y0.extract 0 m0, y1)], by omega, by simp; omega, by go_num, HTk.out _ HIt2.out.1 _ hM.out, fun x hx => by
          rcases List.mem_append.1 hx with hx | hx
          · exact hIt.out x hx
          · rw [List.mem_singleton.1 hx]; exact HIt2.out.2, by rw [cellsOf_append, List.length_append]; exact HO6.out, HB6⟩
      case measure => simp [intOf]; omega
    · obtain rfl : k = ws.length := by omega
      rw [List.take_length] at hM
      have HBw := Lib.hid (HB.out.trans (hb.out.mono HB.out.size))
      obtain ⟨oa, oc, hv⟩ := own_form hO.out
      subst hv
      have HL := Lib.hid (LRow.of_own hO.out).2
      have hol : o.length ≤ 401 := by omega
      clear hok
      have hfo := fit_items hM.out HWp.out hol
      go_wp2_with fail
      refine (good68 oa oc o hfo wr HL.out).mono ?_
      rintro e w4 ⟨rfl, hb4⟩
      have HO4 := Lib.hid (own_base (own_below hO.out hb4) HB.out.size)
      replace HBw := Lib.hid (HBw.out.trans (hb4.mono HBw.out.size))
      clear hb4
      cases hg : goodB o with
      | true =>
        have HE : Hid (ReadEnd s.data.toList w (.returned (.tuple #[.slice oa o.length oc, .bool true])) w4) := Lib.hid (readEnd_yes (HYes.out o hM.out hg) HO4.out HBw.out)
        clear hg
        go_wp2
        go_ret2
        exact HE.out
      | false =>
        have HE : Hid (ReadEnd s.data.toList w (.returned (.tuple #[.slice none 0 0, .bool false])) w4) := Lib.hid (readEnd_no (HNg.out o hIt.out hM.out hg) HBw.out)
        clear hg
        go_wp2
        go_ret2
        exact HE.out
end Go.Proofs.YtpbcgfgjdimpmaaDoor
namespace Go.Proofs.YtpbcgfgjdimpmaaDoor
open Go.RowKit Go.Deep

def cutLab (p : List UInt8) : Lab := (⟨(Lib.cut p [61, 34]).1.toArray⟩, ⟨(Lib.trimSuffix (Lib.cut p [61, 34]).2.1 [34]).toArray⟩)
def insideL (D : List UInt8) : List UInt8 := Lib.trimSuffix (Lib.trimPrefix D [123]) [125]
def splitF (D : List UInt8) : List Lab := if insideL D = [] then [] else (pieces 44 (insideL D)).map cutLab
theorem cut_at {n r : List UInt8} (hn : ∀ c ∈ n, c ≠ 61) : (Lib.cut (n ++ ([61, 34] ++ r)) [61, 34]).1 = n ∧ (Lib.cut (n ++ ([61, 34] ++ r)) [61, 34]).2.1 = r := by
  unfold Lib.cut
  rcases Lib.index_spec (n ++ ([61, 34] ++ r)) [61, 34] with ⟨h1, h2⟩ | ⟨i, h1, h2, h3, h4⟩
  · exfalso
    have := h2 n.length (by simp)
    unfold Lib.occAt at this
    rw [List.drop_left, List.isPrefixOf_iff_prefix.2 (List.prefix_append _ _)] at this
    cases this
  · have hi : i = n.length := by
      rcases Nat.lt_trichotomy i n.length with hlt | heq | hgt
      · exfalso
        unfold Lib.occAt at h3
        obtain ⟨t, ht⟩ := List.isPrefixOf_iff_prefix.1 h3
        have h5 : (n ++ ([61, 34] ++ r))[i]? = some 61 := by
          have := congrArg List.head? ht
          rw [List.head?_drop] at this
          exact this.symm
        rw [List.getElem?_append_left hlt, List.getElem?_eq_getElem hlt] at h5
        exact hn _ (List.getElem_mem hlt) (Option.some.inj h5)
      · exact heq
      · exfalso
        have := h4 n.length hgt
        unfold Lib.occAt at this
        rw [List.drop_left, List.isPrefixOf_iff_prefix.2 (List.prefix_append _ _)] at this
        cases this
    rw [h1, if_pos (by omega)]
    subst hi
    simp
theorem trimSuf_self' (a b : List UInt8) : Lib.trimSuffix (a ++ b) b = a := by
  unfold Lib.trimSuffix Lib.hasSuffix
  rw [if_pos (List.isSuffixOf_iff_suffix.2 (List.suffix_append a b))]
  simp
theorem cutLab_lab {x : Lab} (h : labB x = true) : cutLab (labT x) = x := by
  obtain ⟨h1, _⟩ := lab_parts h
  have e : labT x = x.1.data.toList ++ ([61, 34] ++ (x.2.data.toList ++ [34])) := by simp [labT]
  have hc := cut_at (n := x.1.data.toList) (r := x.2.data.toList ++ [34]) (fun c hc => (name_not (h1 c hc)).2.2)
  unfold cutLab
  rw [e, hc.1, hc.2, trimSuf_self']
theorem inside_text (o : List Lab) : insideL (textL o) = Lib.join (o.map labT) [44] := by
  unfold insideL
  have e : textL o = [123] ++ (Lib.join (o.map labT) [44] ++ [125]) := by simp [textL, headT]
  have h1 : Lib.trimPrefix (textL o) [123] = Lib.join (o.map labT) [44] ++ [125] := by
    unfold Lib.trimPrefix Lib.hasPrefix
    rw [e, if_pos (List.isPrefixOf_iff_prefix.2 (List.prefix_append _ _))]
    rfl
  rw [h1, trimSuf_self']
theorem split_reads {D : List UInt8} {o : List Lab} (h : Reads D o) : splitF D = o := by
  obtain ⟨hg, rfl⟩ := h
  unfold splitF
  rw [inside_text]
  by_cases e : o = []
  · subst e
    rw [if_pos (by rfl)]
  · have hp := join_pos e
    rw [if_neg (fun h => by rw [h] at hp; simp at hp), pieces_items e (good_labs hg), List.map_map]
    conv => rhs; rw [← List.map_id o]
    apply List.map_congr_left
    intro x hx
    exact cutLab_lab (good_labs hg x hx)
theorem inside_size (D : List UInt8) : (insideL D).length ≤ D.length := Nat.le_trans (trimSuf_size _ _) (trimPre_size _ _)
theorem cut1_size' (s p : List UInt8) : (Lib.cut s p).1.length ≤ s.length := by
  unfold Lib.cut; split
  · simp only [List.length_take]; exact Nat.min_le_right _ _
  · exact Nat.le_refl _
theorem cutLab_size (p : List UInt8) : (cutLab p).1.size ≤ p.length ∧ (cutLab p).2.size ≤ p.length := by
  constructor
  · rw [Lib.size_eq]; exact cut1_size' _ _
  · rw [Lib.size_eq]; exact Nat.le_trans (trimSuf_size _ _) (cut_size _ _)
theorem split_fit {D : List UInt8} (h : D.length ≤ 400) : Fit (splitF D) ∧ (splitF D).length ≤ 401 := by
  unfold splitF
  split
  · exact ⟨⟨by simp, by simp⟩, by simp⟩
  · have h1 := pieces_le (b := 44) (insideL D)
    have h2 := inside_size D
    refine ⟨⟨by rw [List.length_map]; omega, fun x hx => ?_⟩, by rw [List.length_map]; omega⟩
    obtain ⟨p, hp, rfl⟩ := List.mem_map.1 hx
    have := h1.2 p hp
    have h3 := cutLab_size p
    omega

def Splits (D : List UInt8) (w : World) (e : Ending) (w' : World) : Prop :=
  ∃ v, e = .returned v ∧ w'.ownsRow w.heap.size 82 2 v (splitF D).length (cellsOf (splitF D)) ∧ Below w.heap.size w w'

set_option maxHeartbeats 8000000 in
set_option maxRecDepth 100000 in
theorem split68 (s : ByteArray) (hs : s.size ≤ 400) (w : World) (hM : MaxC w) : Calls Tryd.prog 68 #[.string s] w (Splits s.data.toList w) := by
  have HM := Lib.hid hM
  clear hM
  obtain ⟨i0, hi0, hz0, hz1, hz2⟩ := info_parts Tryd.info82
  go_enter Tryd.func68, Tryd.ntmps68
  go_wp2_with fail
  refine (Tryd.strings_TrimPrefix s ⟨#[123]⟩ _).mono ?_
  rintro e w0 ⟨rfl, rfl⟩
  obtain ⟨r1, hr1⟩ : ∃ a : ByteArray, a = ⟨(Lib.trimPrefix s.data.toList [123]).toArray⟩ := ⟨_, rfl⟩
  have hs1 : r1.size ≤ 400 := by rw [hr1, Lib.size_eq]; have := trimPre_size s.data.toList [123]; rw [← Lib.size_eq] at this; exact Nat.le_trans this hs
  rw [← hr1]
  have HR1 := Lib.hid (show r1.data.toList = Lib.trimPrefix s.data.toList [123] by rw [hr1])
  clear hr1
  go_wp2_with fail
  refine (Tryd.strings_TrimSuffix r1 ⟨#[125]⟩ _ (by omega)).mono ?_
  rintro e w0 ⟨rfl, rfl⟩
  obtain ⟨ins, hin⟩ : ∃ a : ByteArray, a = ⟨(Lib.trimSuffix r1.data.toList [125]).toArray⟩ := ⟨_, rfl⟩
  have HI := Lib.hid (show ins.data.toList = insideL s.data.toList by rw [hin, HR1.out]; rfl)
  have hsi : ins.size ≤ 400 := by rw [Lib.size_eq, HI.out]; have := inside_size s.data.toList; rw [← Lib.size_eq] at this; omega
  rw [← hin]
  clear hin
  by_cases hz : 0 < ins.size
  case neg =>
    have he := empty_of (s := ins) (by omega)
    have HS := Lib.hid (show splitF s.data.toList = [] by unfold splitF; rw [if_pos (by rw [← HI.out]; exact data_nil (by omega))])
    go_wp2
    go_ret
    refine ⟨_, rfl, ?_, Below.refl _ _⟩
    rw [HS.out]
    exact World.ownsRow_nil _ _ _ _
  have he := nonempty_of hz
  have HS := Lib.hid (show splitF s.data.toList = (pieces 44 ins.data.toList).map cutLab by
    unfold splitF
    rw [← HI.out, if_neg (fun h => by have := Lib.size_eq ins; rw [h] at this; simp at this; rw [this] at hz; simp at hz)])
  have hPL := pieces_le (b := 44) ins.data.toList
  rw [← Lib.size_eq] at hPL
  go_wp2_with fail
  refine (split106 44 ins (by omega) _ HM.out).mono ?_
  rintro e w1 ⟨rfl, hb, hlt1, hc⟩
  have HC := Lib.hid hc
  have HB := Lib.hid hb
  clear hb hc
  have HPS := Lib.hid hPL.2
  have hpl := hPL.1
  clear hPL
  generalize pieces 44 ins.data.toList = ps at HC HS HPS hpl ⊢
  go_wp2_with fail
  go_loopw [4, 18] (fun v i wr => ∃ k : Nat, k ≤ ps.length ∧ i = .int .i64 k ∧ Hid (wr.ownsRow w1.heap.size 82 2 v k (cellsOf ((ps.take k).map cutLab))) ∧ Hid (Below w1.heap.size w1 wr)) (fun _ i _ => ps.length - (intOf i).toNat)
  case atStart => exact ⟨0, Nat.zero_le _, rfl, by simpa [cellsOf, Hid] using World.ownsRow_nil _ _ _ _, Below.refl _ _⟩
  case round =>
    obtain ⟨k, hk, rfl, hO, hb⟩ := hrel
    by_cases hlt : k < ps.length
    · have c0 := (hb.out.cell (p := ⟨w0.heap.size, k, none⟩) hlt1).trans (HC.out k ps[k] (List.getElem?_eq_getElem hlt))
      have hps := HPS.out ps[k] (List.getElem_mem hlt)
      have HT := Lib.hid (show cellsOf ((ps.take (k + 1)).map cutLab) = cellsOf ((ps.take k).map cutLab) ++ [.string (cutLab ps[k]).1, .string (cutLab ps[k]).2] by
        rw [List.take_succ_eq_append_getElem hlt, List.map_append, cellsOf_append]; rfl)
      obtain ⟨m0, hm0⟩ := (HM.out.below' HB.out).below' hb.out
      have HM0 := Lib.hid hm0
      clear hm0
      generalize hpk : ps[k] = p at c0 hps HT
      clear hpk
      have hpz : (⟨p.toArray⟩ : ByteArray).size ≤ 400 := by rw [Lib.size_eq]; show p.length ≤ 400; omega
      go_wp2_with fail
      refine (Tryd.strings_Cut ⟨p.toArray⟩ ⟨#[61, 34]⟩ m0 _ (by omega) HM0.out).mono ?_
      rintro e w2 ⟨rfl, q, hw2⟩
      have HO2 : Hid (w2.ownsRow w1.heap.size 82 2 u4 k (cellsOf ((ps.take k).map cutLab))) := by rw [hw2]; exact hO
      have HB2 := Lib.hid (show Below w1.heap.size w1 w2 by rw [hw2]; exact below_drewN hb.out q)
      clear hw2
      obtain ⟨nm, hnm⟩ : ∃ a : ByteArray, a = ⟨(Lib.cut p [61, 34]).1.toArray⟩ := ⟨_, rfl⟩
      obtain ⟨rst, hrst⟩ : ∃ a : ByteArray, a = ⟨(Lib.cut p [61, 34]).2.1.toArray⟩ := ⟨_, rfl⟩
      have hrz : rst.size ≤ 400 := by rw [hrst, Lib.size_eq]; have := cut_size p [61, 34]; show (Lib.cut p [61, 34]).2.1.length ≤ 400; omega
      have HT2 := Lib.hid (show (cutLab p).1 = nm ∧ (cutLab p).2 = ⟨(Lib.trimSuffix rst.data.toList [34]).toArray⟩ by rw [hnm, hrst]; exact ⟨rfl, rfl⟩)
      rw [toBytes, show (ByteArray.mk #[61, 34]).data.toList = [61, 34] from rfl, ← hnm, ← hrst]
      clear hnm hrst
      generalize (Lib.cut p [61, 34]).2.2 = fnd
      go_wp2_with fail
      refine (Tryd.strings_TrimSuffix rst ⟨#[34]⟩ _ (by omega)).mono ?_
      rintro e w3 ⟨rfl, rfl⟩
      rw [show (ByteArray.mk #[34]).data.toList = [34] from rfl]
      obtain ⟨iz, hiz⟩ : ∃ a : ByteArray, a = ⟨(Lib.trimSuffix rst.data.toList [34]).toArray⟩ := ⟨_, rfl⟩
      rw [← hiz] at HT2 ⊢
      clear hiz
      go_wp2_with (at_builtin; refine wpList_append_own _ rfl (.tmp 28) (.tmp 33) 24 rfl w1.heap.size 82 i0 _ 2 32 Tryd.underlying24 hi0 hz0 hz1 hz2 rfl (by decide) _ _ _ rfl (HO2.out.alloc _) ⟨w3.heap.size, 0, none⟩ 1 1 [.string nm, .string iz] rfl rfl new_pair pair_one ?c3 ?c4 ?c5 ?_)
      case c3 => unfold maxLen; omega
      case c4 => omega
      case c5 => have h1 := HB2.out.size; simp; omega
      intro v' w4 hown' hgrow _
      have HVg := Lib.hid (fun g hg => (HO2.out.lt g hg).1)
      have HBz := Lib.hid (HB2.out.alloc HB2.out.size (.cells #[.string nm, .string iz] 82))
      have HB4 := Lib.hid (HBz.out.grown hgrow HBz.out.size HVg.out)
      have HO4 : Hid (w4.ownsRow w1.heap.size 82 2 v' (k + 1) (cellsOf ((ps.take (k + 1)).map cutLab))) := Lib.hid (by rw [HT.out, HT2.out.1, HT2.out.2, List.map_take]; exact hown')
      clear hown' hgrow
      go_wp2
      go_roundw
      case rel => exact ⟨k + 1, by omega, by go_num, HO4, HB4⟩
      case measure => simp [intOf]; omega
    · obtain rfl : k = ps.length := by omega
      rw [List.take_length] at hO
      have HO := Lib.hid (own_base hO.out HB.out.size)
      have HBw := Lib.hid (HB.out.trans (hb.out.mono HB.out.size))
      go_wp2
      go_ret
      exact ⟨_, rfl, by rw [HS.out, List.length_map]; exact HO.out, HBw.out⟩

set_option maxHeartbeats 8000000 in
set_option maxRecDepth 100000 in
theorem read20 (s : ByteArray) (hs : s.size ≤ 1048576) (w : World) (hT : Tabs w) (hM : MaxC w) : Calls Tryd.prog 20 #[.string s] w (ReadEnd s.data.toList w) := by
  have HT := Lib.hid hT
  have HM := Lib.hid hM
  clear hT hM
  by_cases h400 : 400 < s.size
  · have HN := Lib.hid (show ∀ o, ¬ Reads s.data.toList o from fun o h => by have := (read_len h).2; rw [← Lib.size_eq] at this; omega)
    go_enter Tryd.func20, Tryd.ntmps20
    go_wp2
    go_ret2
    exact readEnd_no HN.out (Below.refl _ _)
  have HF := Lib.hid (split_fit (D := s.data.toList) (by rw [← Lib.size_eq]; omega))
  go_enter Tryd.func20, Tryd.ntmps20
  go_wp2_with fail
  refine (split68 s (by omega) _ HM.out).mono ?_
  rintro e w1 ⟨v, rfl, ho, hb⟩
  obtain ⟨ao, c, rfl⟩ := own_slice ho
  have HO := Lib.hid ho
  have HB := Lib.hid hb
  have HL := Lib.hid (LRow.of_own ho).2
  clear ho hb
  have hn : (splitF s.data.toList).length ≤ 1048576 := by have := HF.out.2; omega
  have HRd := Lib.hid (fun o (h : Reads s.data.toList o) => split_reads h)
  have HY := Lib.hid (fun (h1 : goodB (splitF s.data.toList) = true) (h2 : (txtF (splitF s.data.toList)).toList = s.toList) => show Reads s.data.toList (splitF s.data.toList) from ⟨h1, by rw [txtF_yes h1, Lib.toList_data, Lib.toList_data] at h2; exact h2⟩)
  have HNg := Lib.hid (fun (h1 : goodB (splitF s.data.toList) = false) => show ∀ o, ¬ Reads s.data.toList o from fun o h => by rw [split_reads h, h.1] at h1; cases h1)
  have HNt := Lib.hid (fun (h2 : (txtF (splitF s.data.toList)).toList ≠ s.toList) => show ∀ o, ¬ Reads s.data.toList o from fun o h => h2 (by rw [split_reads h, txtF_yes h.1, Lib.toList_data, Lib.toList_data]; exact h.2))
  generalize splitF s.data.toList = l at HO HL hn HY HNg HNt
  clear HF HRd
  go_wp2_with fail
  refine (text30 ao c l hn _ (HT.out.below' HB.out) HL.out).mono ?_
  rintro e w2 ⟨rfl, hb⟩
  have HB2 := Lib.hid (HB.out.trans (hb.mono HB.out.size))
  have HO2 := Lib.hid (own_below HO.out hb)
  clear hb
  by_cases hg : goodB l = true
  case neg =>
    have hg : goodB l = false := by simpa using hg
    have HN := Lib.hid (HNg.out hg)
    go_wp2
    go_ret2
    exact readEnd_no HN.out HB2.out
  by_cases ht : (txtF l).toList = s.toList
  case neg =>
    have HN := Lib.hid (HNt.out ht)
    have hq : ((txtF l).toList != s.toList) = true := by simpa using ht
    have hq' : ((txtF l).toList == s.toList) = false := by simpa using ht
    clear ht
    go_wp2
    go_ret2
    exact readEnd_no HN.out HB2.out
  have HY2 := Lib.hid (HY.out hg ht)
  have hq : ((txtF l).toList != s.toList) = false := by simpa using ht
  have hq' : ((txtF l).toList == s.toList) = true := by simpa using ht
  clear ht
  go_wp2
  go_ret2
  exact readEnd_yes HY2.out HO2.out HB2.out
end Go.Proofs.YtpbcgfgjdimpmaaDoor
