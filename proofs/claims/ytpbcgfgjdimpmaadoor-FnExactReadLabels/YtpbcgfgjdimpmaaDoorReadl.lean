/- What reading labels comes to, and why a piece of a text makes no label: for the contract of the model's ReadLabels. -/
import Derived.Test.YtpbcgfgjdimpmaaDoorReadMath
import Derived.Test.YtpbcgfgjdimpmaaDoorSpecs
namespace Go.Proofs.YtpbcgfgjdimpmaaDoor
open Go.RowKit Go.Deep

/-- What reading labels comes to, in the program and in the model. -/
def ReadEnd (D : List UInt8) (w : World) (e : Ending) (w' : World) : Prop :=
  ∃ v r l, e = .returned (.tuple #[v, .bool r]) ∧ w'.ownsRow w.heap.size 82 2 v l.length (cellsOf l) ∧ Below w.heap.size w w' ∧ (r = true → Reads D l) ∧ (r = false → l = [] ∧ ∀ o, ¬ Reads D o)
theorem readEnd_no {D : List UInt8} {w w' : World} (h : ∀ o, ¬ Reads D o) (hb : Below w.heap.size w w') : ReadEnd D w (.returned (.tuple #[.slice none 0 0, .bool false])) w' :=
  ⟨_, false, [], rfl, World.ownsRow_nil _ _ _ _, hb, fun h => (by cases h), fun _ => ⟨rfl, h⟩⟩
theorem readEnd_yes {D : List UInt8} {w w' : World} {v : Value} {l : List Lab} (h : Reads D l) (ho : w'.ownsRow w.heap.size 82 2 v l.length (cellsOf l)) (hb : Below w.heap.size w w') : ReadEnd D w (.returned (.tuple #[v, .bool true])) w' :=
  ⟨_, true, l, rfl, ho, hb, fun _ => h, fun h => (by cases h)⟩
theorem pieces_le {b : UInt8} : ∀ (s : List UInt8), (pieces b s).length ≤ s.length + 1 ∧ ∀ p ∈ pieces b s, p.length ≤ s.length
  | [] => by simp [pieces]
  | x :: s => by
    obtain ⟨h1, h2⟩ := pieces_le (b := b) s
    obtain ⟨p, ps, h⟩ := pieces_some b s
    rw [pieces]
    rw [h] at h1 h2 ⊢
    by_cases e : x = b
    · rw [if_pos e]
      refine ⟨by simp at h1 ⊢; omega, fun q hq => ?_⟩
      rcases List.mem_cons.1 hq with rfl | hq
      · simp
      · have := h2 q hq; simp; omega
    · rw [if_neg e]
      refine ⟨by simp at h1 ⊢; omega, fun q hq => ?_⟩
      rcases List.mem_cons.1 hq with rfl | hq
      · have := h2 p (by simp); simp; omega
      · have := h2 q (List.mem_cons_of_mem _ hq); simp; omega
def bs (ws : List (List UInt8)) : List ByteArray := ws.map fun p => ⟨p.toArray⟩
theorem strs_bs (ws : List (List UInt8)) : strs ws = (bs ws).map Value.string := by simp [strs, bs]
theorem read_len {D : List UInt8} {o : List Lab} (h : Reads D o) : 2 ≤ D.length ∧ D.length ≤ 200 := by
  have h1 := textS_size h.1
  have h2 : (textS o).size = (textL o).length := by simp [textS, ByteArray.size]
  have h3 := text_len o
  rw [h.2] at h2 h3
  omega
theorem read_first {D : List UInt8} {o : List Lab} (h : Reads D o) (hl : 0 < D.length) : D[0] = 123 := by
  have := h.2
  subst this
  simp [textL, headT]
theorem read_last {D : List UInt8} {o : List Lab} (h : Reads D o) (hl : D.length - 1 < D.length) : D[D.length - 1] = 125 := by
  have := h.2
  subst this
  simp [textL]
theorem read_two {D : List UInt8} (h : D.length = 2) (h0 : D[0]'(by omega) = 123) (h1 : D[D.length - 1]'(by omega) = 125) : Reads D [] := by
  have e := braces (by omega) h0 h1
  have : inner D = [] := by simp [inner, h]
  rw [this] at e
  rw [e]
  exact reads_empty

theorem last_conv {s : ByteArray} {m : Nat} (hm : m + 1 = s.size) (h : m < s.size) (h' : s.data.toList.length - 1 < s.data.toList.length) : s[m] = s.data.toList[s.data.toList.length - 1] := by
  have e := size_len s
  rw [byte_at s h]
  congr 1
  omega
theorem inner_extract {s : ByteArray} {m : Nat} (hm : m + 1 = s.size) : (s.extract 1 m).data.toList = inner s.data.toList := by
  have e := size_len s
  rw [extract_pieces]
  show (s.data.toList.drop 1).take (m - 1) = (s.data.toList.drop 1).take (s.data.toList.length - 2)
  congr 1
  omega
theorem split44 (s : ByteArray) (hs : s.size ≤ 1048576) (w : World) : Calls Tryd.prog 73 #[.string s, .int .u8 44] w (Cutted 44 s.data.toList w) := split80 s 44 hs w
theorem split34 (s : ByteArray) (hs : s.size ≤ 1048576) (w : World) : Calls Tryd.prog 73 #[.string s, .int .u8 34] w (Cutted 34 s.data.toList w) := split80 s 34 hs w
theorem cut_row {w : World} {base : Nat} {v : Value} {ws : List (List UInt8)} (h : w.ownsRow base 9 1 v ws.length (strs ws)) : ∃ ao c, v = .slice ao ws.length c ∧ TRow w w.heap.size ao (bs ws) := by
  obtain ⟨ao, c, rfl⟩ := own_slice9 h
  rw [strs_bs] at h
  exact ⟨ao, c, rfl, (TRow.of_own h).2⟩
theorem bs_at {ws : List (List UInt8)} {k : Nat} (h : k < ws.length) (h' : k < (bs ws).length) : (bs ws)[k] = ⟨ws[k].toArray⟩ := by simp [bs]
theorem bs_len (ws : List (List UInt8)) : (bs ws).length = ws.length := by simp [bs]
/-- Its own text is cut into its own parts. -/
def Itemed (x : Lab) : Prop := pieces 34 (labT x) = [x.1.data.toList ++ [61], x.2.data.toList, []]
theorem item_inj {x y : Lab} (hx : Itemed x) (hy : Itemed y) (h : labT x = labT y) : x = y := by
  have e := hx.symm.trans ((congrArg (pieces 34) h).trans hy)
  simp only [List.cons.injEq, and_true, List.append_cancel_right_eq] at e
  exact Prod.ext (data_eq e.1) (data_eq e.2)
theorem items_inj : ∀ {a b : List Lab}, (∀ x ∈ a, Itemed x) → (∀ x ∈ b, Itemed x) → a.map labT = b.map labT → a = b
  | [], [], _, _, _ => rfl
  | [], _ :: _, _, _, h => by simp at h
  | _ :: _, [], _, _, h => by simp at h
  | x :: a, y :: b, ha, hb, h => by
    simp only [List.map_cons, List.cons.injEq] at h
    rw [item_inj (ha x (by simp)) (hb y (by simp)) h.1, items_inj (fun z hz => ha z (List.mem_cons_of_mem _ hz)) (fun z hz => hb z (List.mem_cons_of_mem _ hz)) h.2]
theorem three_of {ps : List (List UInt8)} (h : ps.length = 3) : ∃ y0 y1 y2 : ByteArray, ps = [y0.data.toList, y1.data.toList, y2.data.toList] := by
  match ps, h with
  | [a, b, c], _ => exact ⟨⟨a.toArray⟩, ⟨b.toArray⟩, ⟨c.toArray⟩, by simp⟩
def badItem0 (ps : List (List UInt8)) : Prop := ∀ x : Lab, 1 ≤ x.1.size → ps ≠ [x.1.data.toList ++ [61], x.2.data.toList, []]
theorem bad_len {ps : List (List UInt8)} (h : ps.length ≠ 3) : badItem0 ps := fun x _ e => h (by rw [e]; rfl)
theorem bad_third {y0 y1 y2 : ByteArray} (h : 0 < y2.size) : badItem0 [y0.data.toList, y1.data.toList, y2.data.toList] := fun x _ e => by
  simp only [List.cons.injEq, and_true] at e
  have := size_len y2
  rw [e.2.2] at this
  have h9 : y2.size = 0 := this
  omega
theorem bad_short {y0 y1 y2 : ByteArray} (h : y0.size < 2) : badItem0 [y0.data.toList, y1.data.toList, y2.data.toList] := fun x hx e => by
  simp only [List.cons.injEq, and_true] at e
  have h0 := size_len y0
  have h1 := size_len x.1
  rw [e.1, List.length_append] at h0
  simp only [List.length_cons, List.length_nil] at h0
  omega
theorem bad_last {y0 y1 y2 : ByteArray} {m : Nat} (hm : m + 1 = y0.size) (hl : m < y0.size) (h : y0[m] ≠ 61) : badItem0 [y0.data.toList, y1.data.toList, y2.data.toList] := fun x _ e => by
  simp only [List.cons.injEq, and_true] at e
  have h0 := size_len y0
  refine h ?_
  rw [byte_at y0 hl]
  have hx : m = x.1.data.toList.length := by
    rw [e.1, List.length_append] at h0
    simp only [List.length_cons, List.length_nil] at h0
    omega
  have e' := e.1
  subst hx
  simp only [e']
  simp
theorem made_item {y0 y1 : ByteArray} {m : Nat} {wk : List UInt8} (hm : m + 1 = y0.size) (hl : m < y0.size) (h : y0[m] = 61) (hp : pieces 34 wk = [y0.data.toList, y1.data.toList, []]) : labT (y0.extract 0 m, y1) = wk ∧ Itemed (y0.extract 0 m, y1) := by
  have h0 := size_len y0
  have hq : y0.data.toList = (y0.extract 0 m).data.toList ++ [61] := by
    rw [extract_pieces]
    show y0.data.toList = (y0.data.toList.drop 0).take (m - 0) ++ [61]
    rw [List.drop_zero, Nat.sub_zero]
    conv => lhs; rw [← List.take_append_drop m y0.data.toList]
    congr 1
    rw [List.drop_eq_getElem_cons (by omega), ← byte_at y0 hl, h, List.drop_eq_nil_of_le (by omega)]
  have hw : labT (y0.extract 0 m, y1) = wk := by
    have := item_of (q := (y0.extract 0 m).data.toList) hp hq
    have e1 : (⟨((y0.extract 0 m).data.toList).toArray⟩ : ByteArray) = y0.extract 0 m := str_ext rfl
    have e2 : (⟨y1.data.toList.toArray⟩ : ByteArray) = y1 := str_ext rfl
    rw [e1, e2] at this
    exact this
  refine ⟨hw, ?_⟩
  unfold Itemed
  rw [hw, hp, hq]
theorem fit_items {ws : List (List UInt8)} {o : List Lab} (hM : o.map labT = ws) (hw : ∀ p ∈ ws, p.length ≤ 400) (hl : o.length ≤ 401) : Fit o := ⟨by omega, fun x hx => by
  have h1 := hw (labT x) (by rw [← hM]; exact List.mem_map_of_mem hx)
  unfold labT at h1
  simp only [List.length_append, List.length_cons, List.length_nil] at h1
  have e1 := size_len x.1
  have e2 := size_len x.2
  omega⟩
/-- Why the pieces of a piece make no label. -/
abbrev badItem := badItem0
theorem no_item {D : List UInt8} {k : Nat} (h2 : D.length ≠ 2) (hk : k < (pieces 44 (inner D)).length) (hb : badItem (pieces 34 (pieces 44 (inner D))[k])) : ∀ o, ¬ Reads D o := by
  intro o ho
  by_cases e : o = []
  · have := text_len o
    rw [ho.2, e] at this
    exact h2 (by rw [this]; rfl)
  · have hi := reads_items ho e
    have hko : k < o.length := by rw [hi] at hk; simpa using hk
    have hx := good_labs ho.1 _ (List.getElem_mem hko)
    refine hb o[k] (lab_parts hx).2.2.1 ?_
    rw [← item_pieces hx]
    congr 1
    simp [hi]

end Go.Proofs.YtpbcgfgjdimpmaaDoor
