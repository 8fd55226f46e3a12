/- The model's draw of labels that may be amiss, over this seat's translation. -/
import Derived.Test.YtpbcgfgjdimpmaaDoorDrawl
namespace Go.Proofs.YtpbcgfgjdimpmaaDoor
open Go.RowKit Go.Deep

theorem cellsOf_setName {l : List Lab} {k : Nat} (hk : k < l.length) (x : ByteArray) : (cellsOf l).set (k * 2) (.string x) = cellsOf (l.set k (x, l[k].2)) := by
  induction l generalizing k with
  | nil => simp at hk
  | cons y l ih =>
    cases k with
    | zero => rfl
    | succ k =>
      have := ih (k := k) (by simpa using hk)
      rw [show (k + 1) * 2 = k * 2 + 1 + 1 by omega]
      simp only [cellsOf, List.flatMap_cons, List.set_cons_succ, List.cons_append, List.nil_append, List.getElem_cons_succ] at this ⊢
      rw [this]
theorem cellsOf_setIs {l : List Lab} {k : Nat} (hk : k < l.length) (x : ByteArray) : (cellsOf l).set (k * 2 + 1) (.string x) = cellsOf (l.set k (l[k].1, x)) := by
  induction l generalizing k with
  | nil => simp at hk
  | cons y l ih =>
    cases k with
    | zero => rfl
    | succ k =>
      have := ih (k := k) (by simpa using hk)
      rw [show (k + 1) * 2 + 1 = k * 2 + 1 + 1 + 1 by omega]
      simp only [cellsOf, List.flatMap_cons, List.set_cons_succ, List.cons_append, List.nil_append, List.getElem_cons_succ] at this ⊢
      rw [this]
theorem Small.set {m : Nat} {l : List Lab} (h : Small m l) {k : Nat} {y : Lab} (hy : y.1.size ≤ 21 ∧ y.2.size ≤ 21) : Small m (l.set k y) := by
  refine ⟨by rw [List.length_set]; exact h.1, fun x hx => ?_⟩
  rcases List.mem_or_eq_of_mem_set hx with hx | rfl
  · exact h.2 x hx
  · exact hy
theorem row_cell {w : World} {base n c g : Nat} {l : List Lab} (h : w.ownsRow base 82 2 (.slice (some ⟨g, 0, none⟩) n c) n (cellsOf l)) {i : Nat} (hi : i < n * 2) : (∃ u, w.cell? ⟨g, i, none⟩ = some u) ∧ w.frozen? ⟨g, i, none⟩ = false := by
  have hl := h.1
  exact ⟨⟨(cellsOf l)[i]'(by omega), by rw [h.cellAt _ (by omega), List.getElem?_eq_getElem]⟩, h.frozenAt _⟩
theorem own_ge {w : World} {base n c g : Nat} {xs : List Value} (h : w.ownsRow base 82 2 (.slice (some ⟨g, 0, none⟩) n c) n xs) : base ≤ g := (h.lt g rfl).1
theorem any_name {w w5 : World} {B : Nat} {ao : Option Addr} {n cap k d m g c jj : Nat} {l : List Lab} {x : ByteArray} (hj : jj < l.length) (hs : Small m l) (hB : B < w.heap.size) (hx : x.size ≤ 21) (ho : w5.ownsRow w.heap.size 82 2 (.slice (some ⟨g, 0, none⟩) l.length c) l.length (cellsOf l)) (hD : Drawn w w5 B ao n cap k d) :
    Labelled w B ao n cap k d (m + 1) (.returned (.slice (some ⟨g, 0, none⟩) l.length c)) (w5.setCell ⟨g, jj * 2, none⟩ (.string x)) := by
  have h1 := (ho.stored (jj * 2) (.string x)).1
  rw [cellsOf_setName hj] at h1
  exact ⟨_, _, (hs.set (k := jj) (y := (x, l[jj].2)) ⟨hx, (hs.2 _ (List.getElem_mem hj)).2⟩).more (by omega), rfl, by rw [List.length_set]; exact h1, hD.stored hB (own_ge ho) _ _⟩
theorem any_is {w w5 : World} {B : Nat} {ao : Option Addr} {n cap k d m g c jj : Nat} {l : List Lab} {x : ByteArray} (hj : jj < l.length) (hs : Small m l) (hB : B < w.heap.size) (hx : x.size ≤ 21) (ho : w5.ownsRow w.heap.size 82 2 (.slice (some ⟨g, 0, none⟩) l.length c) l.length (cellsOf l)) (hD : Drawn w w5 B ao n cap k d) :
    Labelled w B ao n cap k d (m + 1) (.returned (.slice (some ⟨g, 0, none⟩) l.length c)) (w5.setCell ⟨g, jj * 2 + 1, none⟩ (.string x)) := by
  have h1 := (ho.stored (jj * 2 + 1) (.string x)).1
  rw [cellsOf_setIs hj] at h1
  exact ⟨_, _, (hs.set (k := jj) (y := (l[jj].1, x)) ⟨(hs.2 _ (List.getElem_mem hj)).1, hx⟩).more (by omega), rfl, by rw [List.length_set]; exact h1, hD.stored hB (own_ge ho) _ _⟩
theorem row_is {w : World} {base n c g : Nat} {R : List Lab} (h : w.ownsRow base 82 2 (.slice (some ⟨g, 0, none⟩) n c) n (cellsOf R)) {j : Nat} (hj : j < R.length) : w.cell? ⟨g, j * 2 + 1, none⟩ = some (.string R[j].2) := by
  have := h.cells (g := g) rfl (j * 2 + 1) (.string R[j].2) (cellsOf_is hj)
  rw [Go.WideShapes.add_plain, Nat.zero_add] at this
  exact this

set_option maxHeartbeats 2000000 in
set_option maxRecDepth 100000 in
theorem any64 (w : World) (B : Nat) (ao : Option Addr) (n cap k : Nat) (h : Cur w B ao n cap k) (hn : n ≤ 1048576) (hk : k ≤ 7000000) :
    Calls Tryd.prog 69 #[.pointer (some ⟨B, 0, none⟩)] w (Labelled w B ao n cap k 10 5) := by
  have H := Lib.hid h
  clear h
  obtain ⟨i0, hi0, hz0, hz1, hz2⟩ := info_parts Tryd.info82
  go_enter Tryd.func69, Tryd.ntmps69
  go_wp2_with fail
  refine (labels65 w B ao n cap k H.out hn (by omega)).mono ?_
  rintro e w1 ⟨v, l, hs, rfl, ho1, ⟨k1, hk1, hC1⟩, hG1⟩
  have HS := Lib.hid hs; have HO1 := Lib.hid ho1; have HC1 := Lib.hid hC1; have HG1 := Lib.hid hG1
  have hl4 := hs.1
  clear hs ho1 hC1 hG1
  obtain ⟨va, vc, hv⟩ := own_form HO1.out
  subst hv
  by_cases hz : l.length = 0
  · have hE : Hid (Labelled w B ao n cap k 10 5 (.returned (.slice va 0 vc)) w1) := by
      have h1 := HO1.out
      exact Lib.hid ⟨_, l, HS.out.more (by omega), by rw [hz], h1, ⟨k1, by omega, HC1.out⟩, HG1.out⟩
    rw [hz]
    go_wp2
    go_ret
    exact hE.out
  obtain ⟨g, hva⟩ : ∃ g, va = some ⟨g, 0, none⟩ := by
    rcases HO1.out.2 with ⟨h, h0⟩ | ⟨g, c, cur, h, _⟩
    · omega
    · injection h with h; exact ⟨g, h⟩
  subst hva
  go_wp2_with fail
  refine (pick51 w1 B ao n cap k1 l.length HC1.out hn (by omega) (by omega) (by omega)).mono ?_
  rintro e w2 ⟨r, hr0, hr1, rfl, ⟨k2, hk2, hC2⟩, hG2⟩
  obtain ⟨j, rfl⟩ := Int.eq_ofNat_of_zero_le hr0
  have hjl : j < l.length := by omega
  have HC2 := Lib.hid hC2; have HG2 := Lib.hid (HG1.out.trans hG2)
  have HO2 := Lib.hid (own_other HO1.out H.out.lt hG2)
  clear hC2 hG2 HO1 HC1 HG1 hr0 hr1
  go_wp2_with fail
  refine (pick51 w2 B ao n cap k2 20 HC2.out hn (by omega) (by decide) (by decide)).mono ?_
  rintro e w4 ⟨r, hr0, hr1, rfl, ⟨k4, hk4, hC4⟩, hG4⟩
  have HC4 := Lib.hid hC4; have HG4 := Lib.hid (HG2.out.trans hG4)
  have HO4 := Lib.hid (own_other HO2.out H.out.lt hG4)
  clear hC4 hG4 HO2 HC2 HG2
  by_cases hr : r = 0
  · subst hr
    go_wp2_with fail
    refine (of70 _ B ao n cap k4 _ _ [⟨#[]⟩, ⟨#[50, 97]⟩, ⟨#[65]⟩, ⟨#[116, 111, 111, 108, 111, 110, 103, 110, 97, 109, 101, 111, 102, 105, 116]⟩] (HC4.out.alloc _) hn (by omega) ⟨by decide, by decide, by decide⟩ ⟨_, rfl, HC4.out.lt, fresh_texts w4 _ 9⟩).mono ?_
    rintro e w5 ⟨x, hx, rfl, hD5⟩
    have HD5 := Lib.hid (Drawn.trans (k := k) (i := 9) (j := 1) (HG4.out.trans (World.grownBy_alloc _ _ _)) (by omega) hD5)
    have HO5 := Lib.hid (own_other (HO4.out.alloc _) H.out.lt hD5.2)
    have HE := Lib.hid (any_name (x := x) hjl HS.out H.out.lt (by omega) HO5.out HD5.out)
    obtain ⟨⟨t1, c1⟩, f1⟩ := row_cell HO5.out (i := j * 2) (by omega)
    clear hD5
    go_wp2
    go_ret
    exact HE.out
  by_cases hr1' : r = 1
  · subst hr1'
    go_wp2_with fail
    refine (of70 _ B ao n cap k4 _ _ [⟨#[]⟩, ⟨#[32]⟩, ⟨#[97, 44, 98]⟩] (HC4.out.alloc _) hn (by omega) ⟨by decide, by decide, by decide⟩ ⟨_, rfl, HC4.out.lt, fresh_texts w4 _ 9⟩).mono ?_
    rintro e w5 ⟨x, hx, rfl, hD5⟩
    have HD5 := Lib.hid (Drawn.trans (k := k) (i := 9) (j := 1) (HG4.out.trans (World.grownBy_alloc _ _ _)) (by omega) hD5)
    have HO5 := Lib.hid (own_other (HO4.out.alloc _) H.out.lt hD5.2)
    have HE := Lib.hid (any_is (x := x) hjl HS.out H.out.lt (by omega) HO5.out HD5.out)
    obtain ⟨⟨t1, c1⟩, f1⟩ := row_cell HO5.out (i := j * 2 + 1) (by omega)
    clear hD5
    go_wp2
    go_ret
    exact HE.out
  by_cases hr2 : r = 2
  · subst hr2
    have c0 := row_name HO4.out hjl
    have c1 := row_is HO4.out hjl
    have hx := HS.out.2 _ (List.getElem_mem hjl)
    generalize l[j] = x at c0 c1 hx
    obtain ⟨x1, x2⟩ := x
    dsimp only at c0 c1 hx
    go_wp2_with (at_builtin; refine wpList_append_own _ rfl (.tmp 36) (.tmp 41) 24 rfl w.heap.size 82 i0 _ 2 32 Tryd.underlying24 hi0 hz0 hz1 hz2 rfl (by decide) _ _ _ rfl (HO4.out.alloc _) ⟨w4.heap.size, 0, none⟩ 1 1 [.string x1, .string x2] rfl rfl new_pair pair_one ?c3 ?c4 ?c5 ?_)
    case c3 => unfold maxLen; omega
    case c4 => omega
    case c5 => have h1 := HG4.out.size; simp; omega
    intro v' w5 hown' hgrow _
    have R := Lib.hid (linv_step (K := k + 10) (k1 := k4) (j := 0) H.out.lt HS.out hx.1 hx.2 HO4.out HG4.out ⟨⟨k4, by omega, HC4.out⟩, World.grownBy.refl _ _⟩ (by omega) hown' hgrow)
    clear hown' hgrow
    go_wp2
    go_ret
    obtain ⟨l', k', hk', hs', ho', hC', hg'⟩ := R.out
    exact ⟨_, l', hs', rfl, ho', ⟨k', hk', hC'⟩, hg'⟩
  have hE : Hid (Labelled w B ao n cap k 10 5 (.returned (.slice (some ⟨g, 0, none⟩) l.length vc)) w4) := Lib.hid ⟨_, l, HS.out.more (by omega), rfl, HO4.out, ⟨k4, by omega, HC4.out⟩, HG4.out⟩
  go_wp2
  go_ret
  exact hE.out
end Go.Proofs.YtpbcgfgjdimpmaaDoor
