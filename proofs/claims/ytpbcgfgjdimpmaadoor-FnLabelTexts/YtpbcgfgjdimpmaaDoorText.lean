/- Contracts of the text of labels, in the program and in the model, over this seat's translation: both sides answer textS. -/
import Derived.Test.YtpbcgfgjdimpmaaDoorShelf2
import Derived.Test.YtpbcgfgjdimpmaaDoorTexts
import Derived.Test.YtpbcgfgjdimpmaaDoorIs
import Derived.Lib.Join
namespace Go.Proofs.YtpbcgfgjdimpmaaDoor
open Go.RowKit Go.Deep

/-- The letters of one label's text. -/
def labT (x : Lab) : List UInt8 := x.1.data.toList ++ [61, 34] ++ x.2.data.toList ++ [34]
def labS (x : Lab) : ByteArray := x.1 ++ ⟨#[61, 34]⟩ ++ x.2 ++ ⟨#[34]⟩
def headT (l : List Lab) : List UInt8 := 123 :: Lib.join (l.map labT) [44]
/-- The text of labels. -/
def textL (l : List Lab) : List UInt8 := headT l ++ [125]
def textS (l : List Lab) : ByteArray := ⟨(textL l).toArray⟩

theorem own_slice9 {w : World} {base : Nat} {e : TypeId} {size n : Nat} {v : Value} {xs : List Value} (h : w.ownsRow base e size v n xs) : ∃ ao c, v = .slice ao n c := by
  rcases h.2 with ⟨rfl, rfl⟩ | ⟨g, cap, cur, rfl, _⟩
  · exact ⟨_, _, rfl⟩
  · exact ⟨_, _, rfl⟩
theorem labS_data (x : Lab) : (labS x).data.toList = labT x := by rw [labS, data_add, data_add, data_add]; rfl
theorem size_eq : (⟨#[61, 34]⟩ : ByteArray).size = 2 := rfl
theorem size_q : (⟨#[34]⟩ : ByteArray).size = 1 := rfl
theorem size_c : (⟨#[44]⟩ : ByteArray).size = 1 := rfl

theorem join_snoc (xs : List (List UInt8)) (y sep : List UInt8) (h : 0 < xs.length) : Lib.join (xs ++ [y]) sep = Lib.join xs sep ++ sep ++ y := by
  cases xs with
  | nil => simp at h
  | cons x r =>
    rw [List.cons_append, Lib.join_cons, Lib.join_cons]
    simp [Lib.joinTail]
theorem headT_first {l : List Lab} (h : 0 < l.length) : headT (l.take 1) = 123 :: labT l[0] := by
  cases l with
  | nil => simp at h
  | cons x r => simp [headT, Lib.join_one]
theorem headT_next {l : List Lab} {k : Nat} (h : k + 1 < l.length) : headT (l.take (k + 2)) = headT (l.take (k + 1)) ++ [44] ++ labT l[k + 1] := by
  unfold headT
  rw [List.take_succ_eq_append_getElem h, List.map_append, List.map_singleton, join_snoc _ _ _ (by simp; omega)]
  simp

theorem nameB_size {s : ByteArray} (h : nameB s = true) : s.size ≤ 12 := by
  unfold nameB at h
  simp at h
  omega
theorem wordB_size {s : ByteArray} (h : wordB s = true) : s.size ≤ 12 := by
  unfold wordB at h
  simp at h
  omega
theorem good_at {l : List Lab} (h : goodB l = true) {k : Nat} (hk : k < l.length) : l[k].1.size ≤ 12 ∧ l[k].2.size ≤ 12 := by
  have := ((goodB_iff l).1 h).2 k hk hk
  have h2 := (labB_iff _).1 this.1
  exact ⟨nameB_size h2.1, wordB_size h2.2.1⟩
theorem good_len {l : List Lab} (h : goodB l = true) : l.length ≤ 6 := ((goodB_iff l).1 h).1

set_option maxHeartbeats 2000000 in
set_option maxRecDepth 100000 in
theorem text75 (ao : Option Addr) (cap : Nat) (l : List Lab) (hg : goodB l = true) (w : World) (h : LRow w w.heap.size ao l) :
    Calls Tryd.prog 66 #[.slice ao l.length cap] w fun e w' => e = .returned (.string (textS l)) ∧ Below w.heap.size w w' := by
  have H := Lib.hid h
  have hn := good_len hg
  have HG := Lib.hid hg
  clear h hg
  go_enter Tryd.func66, Tryd.ntmps66
  go_wp2
  go_loopw [3, 8] (fun q i wr => ∃ (k : Nat) (s : ByteArray), k ≤ l.length ∧ i = .int .i64 k ∧ q = .string s ∧ s.size ≤ 1 + 28 * k ∧ Hid (s.data.toList = headT (l.take k)) ∧ Hid (Below w.heap.size w wr)) (fun _ i _ => l.length - (intOf i).toNat)
  case atStart => exact ⟨0, _, Nat.zero_le _, rfl, rfl, by simp [ByteArray.size], rfl, Below.refl _ _⟩
  case round =>
    obtain ⟨k, s, hk, rfl, rfl, hs, hd, hb⟩ := hrel
    by_cases hlt : k < l.length
    · obtain ⟨b, off, hao, hbl, hc⟩ := H.out (by omega)
      subst hao
      have c0 := (hb.out.cell (p := ⟨b, off + k * 2, none⟩) hbl).trans (hc k hlt).1
      have c1 := (hb.out.cell (p := ⟨b, off + k * 2 + 1, none⟩) hbl).trans (hc k hlt).2
      have HB1 := Lib.hid (hb.out.alloc (hb.out.size) (.cells #[.string l[k].1, .string l[k].2] 82))
      have hz := good_at HG.out hlt
      clear hc
      rcases k with _ | k
      · have HN := Lib.hid (headT_first (l := l) (by omega))
        generalize l[0] = x at c0 c1 HB1 hz HN
        obtain ⟨x1, x2⟩ := x
        obtain ⟨z1, z2⟩ := hz
        dsimp only at z1 z2
        simp only [Nat.zero_mul, Nat.add_zero] at c0 c1
        go_wp2
        go_roundw
        case rel =>
          refine ⟨1, _, by omega, by go_num, rfl, by simp only [ByteArray.size_append, size_eq, size_q]; omega, ?_, HB1⟩
          show _ = _
          rw [data_add, HN.out, hd.out]
          exact congrArg (headT (l.take 0) ++ ·) (labS_data (x1, x2))
        case measure => simp [intOf]; omega
      · have HN := Lib.hid (headT_next hlt)
        generalize l[k + 1] = x at c0 c1 HB1 hz HN
        obtain ⟨x1, x2⟩ := x
        obtain ⟨z1, z2⟩ := hz
        dsimp only at z1 z2
        go_wp2
        go_roundw
        case rel =>
          refine ⟨k + 2, _, by omega, by go_num, rfl, by simp only [ByteArray.size_append, size_eq, size_q, size_c]; omega, ?_, HB1⟩
          show _ = _
          rw [data_add, data_add, HN.out, hd.out]
          exact congrArg (headT (l.take (k + 1)) ++ [44] ++ ·) (labS_data (x1, x2))
        case measure => simp [intOf]; omega
    · obtain rfl : k = l.length := by omega
      go_wp2
      go_ret
      refine ⟨ret_str (str_ext ?_), hb.out⟩
      rw [data_add, hd.out, List.take_length]
      rfl

def txtF (l : List Lab) : ByteArray := bif goodB l then textS l else emp
theorem txtF_no {l : List Lab} (h : goodB l = false) : txtF l = emp := by simp [txtF, h]
theorem txtF_yes {l : List Lab} (h : goodB l = true) : txtF l = textS l := by simp [txtF, h]

theorem text31 (ao : Option Addr) (cap : Nat) (l : List Lab) (hF : Fit l) (w : World) (h : LRow w w.heap.size ao l) :
    Calls Tryd.prog 17 #[.slice ao l.length cap] w fun e w' => e = .returned (.tuple #[.string (txtF l), .bool (goodB l)]) ∧ Below w.heap.size w w' := by
  have H := Lib.hid h
  clear h
  go_enter Tryd.func17, Tryd.ntmps17
  go_wp2_with fail
  refine (good68 ao cap l hF _ H.out).mono ?_
  rintro e w1 ⟨rfl, hb⟩
  have HB := Lib.hid hb
  clear hb
  by_cases hg : goodB l = true
  case neg =>
    have hg : goodB l = false := by simpa using hg
    have HI := Lib.hid (txtF_no hg)
    have HG := Lib.hid hg
    go_wp2
    go_ret2
    exact ⟨ret_strb HI.out.symm HG.out.symm, HB.out⟩
  have HI := Lib.hid (txtF_yes hg)
  have HG := Lib.hid hg
  go_wp2_with fail
  refine (text75 ao cap l HG.out _ (H.out.after HB.out)).mono ?_
  rintro e w2 ⟨rfl, hb2⟩
  have HB2 := Lib.hid (HB.out.trans (hb2.mono HB.out.size))
  clear hb2
  go_wp2
  go_ret2
  exact ⟨ret_strb HI.out.symm HG.out.symm, HB2.out⟩

/-- The parts of a text, in new memory. -/
def Parts (base : Nat) (l : List Lab) (k : Nat) (v : Value) (wr : World) : Prop := wr.ownsRow base 9 1 v k ((l.take k).map fun x => .string (labS x))
theorem Parts.append {w w2 w3 : World} {l : List Lab} {k : Nat} {v v' : Value} {o : Obj} (hk : k < l.length) (hb : Below w.heap.size w w2) (hown : Parts w.heap.size l k v w2)
    (hown' : w3.ownsRow w.heap.size 9 1 v' (k + 1) (((l.take k).map fun x => Value.string (labS x)) ++ [.string (labS l[k])])) (hg : (w2.alloc o).grownBy w3 v.ownBlock) : Parts w.heap.size l (k + 1) v' w3 ∧ Below w.heap.size w w3 := by
  refine ⟨?_, ?_⟩
  · unfold Parts
    rw [List.take_succ_eq_append_getElem hk, List.map_append]
    exact hown'
  · have hb1 := hb.alloc hb.size o
    exact hb1.grown hg hb1.size (fun k hk => (hown.lt k hk).1)
theorem new_one {w : World} {a : Value} {t : TypeId} : ∀ (j : Nat) u, [a][j]? = some u → (w.alloc (.cells #[a] t)).cell? ((⟨w.heap.size, 0, none⟩ : Addr).add j) = some u := by
  intro j u hj
  match j, hj with
  | 0, hj => simp at hj; subst hj; simp [Addr.add]
theorem one_str {x : ByteArray} : ∀ u ∈ [Value.string x], u.oneCell' = true := by
  intro u hu; simp at hu; subst hu; rfl

theorem join_len {l : List Lab} (hg : goodB l = true) : (Lib.join (l.map labT) [44]).length ≤ 6 * 28 := by
  have hl := good_len hg
  have h1 : ∀ k (hk : k ≤ l.length), (headT (l.take k)).length ≤ 1 + 28 * k := by
    intro k
    induction k with
    | zero => intro _; simp [headT, Lib.join_nil]
    | succ k ih =>
      intro hk
      have hz := good_at hg (k := k) (by omega)
      have hlab : (labT (l[k]'(by omega))).length ≤ 27 := by
        have e1 := size_len (l[k]'(by omega)).1
        have e2 := size_len (l[k]'(by omega)).2
        simp only [labT, List.length_append, List.length_cons, List.length_nil]
        omega
      cases k with
      | zero =>
        rw [headT_first (by omega)]
        simp only [List.length_cons]
        omega
      | succ k =>
        rw [headT_next (by omega)]
        have := ih (by omega)
        simp only [List.length_append, List.length_cons, List.length_nil]
        omega
  have := h1 l.length (Nat.le_refl _)
  rw [List.take_length] at this
  simp only [headT, List.length_cons] at this
  omega

/-- The parts joined: whatever slice holds them. -/
theorem join74 (l : List Lab) (hg : goodB l = true) (v : Value) (w : World) (h : Parts 0 l l.length v w ∨ ∃ base, Parts base l l.length v w) :
    Calls Tryd.prog 64 #[v, .string ⟨#[44]⟩] w fun e w' => e = .returned (.string ⟨(Lib.join (l.map labT) [44]).toArray⟩) ∧ Below w.heap.size w w' := by
  obtain ⟨base, h⟩ : ∃ base, Parts base l l.length v w := h.elim (fun h => ⟨0, h⟩) id
  unfold Parts at h
  rw [List.take_length] at h
  obtain ⟨ao, c, rfl⟩ := own_slice9 h
  by_cases hl : l.length = 0
  · obtain rfl : l = [] := List.eq_nil_of_length_eq_zero hl
    exact (Tryd.strings_Join_none ao c _ w).mono fun e w' ⟨he, hw⟩ => ⟨he, by rw [hw]; exact Below.refl _ _⟩
  · obtain ⟨g, cap, hv, _, hlt⟩ := h.form (by omega)
    injection hv with hA _ hc
    subst hA hc
    have hcells := h.cells (g := g) rfl
    have hcap : l.length ≤ c := by
      rcases h.2 with ⟨h', _⟩ | ⟨g', cap', cur, h', _, _, hnc, _⟩
      · cases h'
      · simp only [Value.slice.injEq, Option.some.injEq, Addr.mk.injEq, and_true, true_and] at h'
        obtain ⟨_, rfl⟩ := h'
        exact hnc
    have hj : ((l.map labS).map (·.data.toList)) = l.map labT := by
      rw [List.map_map]
      exact List.map_congr_left fun x _ => labS_data x
    have hJ := Tryd.strings_Join g 0 c (l.map labS) ⟨#[44]⟩ w (fun j x hx => by
      have := hcells j (.string x) (by
        rw [List.getElem?_map] at hx ⊢
        obtain ⟨y, hy, rfl⟩ := Option.map_eq_some_iff.1 hx
        rw [hy]; rfl)
      rw [Go.WideShapes.add_plain] at this
      exact this) hlt (by simp; have := good_len hg; omega) (by simpa using hcap) (by rw [hj]; have := join_len hg; show (Lib.join (l.map labT) [44]).length ≤ _; omega)
    rw [hj, List.length_map] at hJ
    exact hJ
end Go.Proofs.YtpbcgfgjdimpmaaDoor
