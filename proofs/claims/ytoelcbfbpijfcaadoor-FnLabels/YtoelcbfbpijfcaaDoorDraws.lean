/- Contracts of the model's draws for the laws of chapter 2, over this seat's translation: each answers something short in new memory and writes nothing that was there. -/
import Derived.Test.YtoelcbfbpijfcaaDoorAny
namespace Go.Proofs.YtoelcbfbpijfcaaDoor
open Go.RowKit Go.Deep

theorem cur_new (w : World) (ao : Option Addr) (n cap : Nat) (h : BRow w w.heap.size ao n) : Cur (w.alloc (.cells #[.slice ao n cap, .int .i64 0, .int .u64 0] 64)) w.heap.size ao n cap 0 :=
  ⟨⟨0, by decide, by decide, blk_alloc_new _ _⟩, h.other (World.grownBy_alloc _ _ _)⟩
/-- What wrote into a new cursor alone wrote nothing that was there. -/
theorem below_cur {w w' : World} {o : Obj} (hg : (w.alloc o).grownBy w' (some w.heap.size)) : Below w.heap.size w w' :=
  ((Below.refl _ w).alloc (Nat.le_refl _) o).grown hg (by simp) (fun k hk => by injection hk with hk; omega)

theorem fresh_texts1 (w : World) (o : Obj) (l : List ByteArray) (t : TypeId) : ∀ i (hi : i < l.length), ((w.alloc o).alloc (.cells (l.map Value.string).toArray t)).cell? ⟨w.heap.size + 1, i, none⟩ = some (.string l[i]) := by
  intro i hi
  have := fresh_texts (w.alloc o) l t i hi
  rwa [show (w.alloc o).heap.size = w.heap.size + 1 by simp] at this
set_option maxRecDepth 100000 in
theorem draw24 (w : World) (ao : Option Addr) (n cap : Nat) (h : BRow w w.heap.size ao n) (hn : n ≤ 1048576) :
    Calls Tryd.prog 24 #[.slice ao n cap] w fun e w' => ∃ x : ByteArray, x.size ≤ 20 ∧ e = .returned (.string x) ∧ Below w.heap.size w w' := by
  have H := Lib.hid (cur_new w ao n cap h)
  clear h
  go_enter Tryd.func24, Tryd.ntmps24
  go_wp2_with fail
  refine (of70 _ _ ao n cap 0 _ _ [⟨#[]⟩, ⟨#[97]⟩, ⟨#[95]⟩, ⟨#[97, 49]⟩, ⟨#[49, 97]⟩, ⟨#[97, 98, 99, 100, 101, 102, 103, 104, 105, 106, 107, 108]⟩, ⟨#[97, 98, 99, 100, 101, 102, 103, 104, 105, 106, 107, 108, 109]⟩, ⟨#[97, 45, 98]⟩, ⟨#[122, 111, 110, 101]⟩, ⟨#[74, 111, 98]⟩] (H.out.alloc _) hn (by omega) ⟨by decide, by decide, by decide⟩ ⟨w.heap.size + 1, rfl, Nat.lt_succ_self _, fresh_texts1 w _ _ 9⟩).mono ?_
  rintro e w2 ⟨x, hx, rfl, hD⟩
  have HB := Lib.hid (below_cur ((World.grownBy_alloc _ _ _).trans hD.2))
  clear hD
  go_wp2
  go_ret
  exact ⟨x, hx, rfl, HB.out⟩

/-- Some labels in new memory. -/
def LDrawn (m : Nat) (w : World) (e : Ending) (w' : World) : Prop := ∃ (ao : Option Addr) (c : Nat) (l : List Lab), Small m l ∧ e = .returned (.slice ao l.length c) ∧ w'.ownsRow w.heap.size 31 2 (.slice ao l.length c) l.length (cellsOf l) ∧ Below w.heap.size w w'

theorem draw25 (w : World) (ao : Option Addr) (n cap : Nat) (h : BRow w w.heap.size ao n) (hn : n ≤ 1048576) : Calls Tryd.prog 25 #[.slice ao n cap] w (LDrawn 5 w) := by
  have H := Lib.hid (cur_new w ao n cap h)
  clear h
  go_enter Tryd.func25, Tryd.ntmps25
  go_wp2_with fail
  refine (any64 _ _ ao n cap 0 H.out hn (by omega)).mono ?_
  rintro e w2 ⟨v, l, hs, rfl, ho, hD⟩
  obtain ⟨va, vc, hv⟩ := own_form ho
  subst hv
  have HB := Lib.hid (below_cur hD.2)
  have HO := Lib.hid (own_base (base' := w.heap.size) ho (by simp))
  have HS := Lib.hid hs
  clear hD ho hs
  go_wp2
  go_ret
  exact ⟨va, vc, l, HS.out, rfl, HO.out, HB.out⟩

/-- Two lists of labels in new memory. -/
def LDrawn2 (w : World) (e : Ending) (w' : World) : Prop := ∃ (ao bo : Option Addr) (c d : Nat) (a b : List Lab), Small 5 a ∧ Small 5 b ∧ e = .returned (.tuple #[.slice ao a.length c, .slice bo b.length d]) ∧ LRow w' w'.heap.size ao a ∧ LRow w' w'.heap.size bo b ∧ Below w.heap.size w w'

set_option maxHeartbeats 1000000 in
set_option maxRecDepth 100000 in
theorem draw21 (w : World) (ao : Option Addr) (n cap : Nat) (h : BRow w w.heap.size ao n) (hn : n ≤ 1048576) : Calls Tryd.prog 21 #[.slice ao n cap] w (LDrawn2 w) := by
  have H := Lib.hid (cur_new w ao n cap h)
  clear h
  go_enter Tryd.func21, Tryd.ntmps21
  go_wp2_with fail
  refine (any64 _ _ ao n cap 0 H.out hn (by omega)).mono ?_
  rintro e w2 ⟨v, l, hs, rfl, ho, ⟨k2, hk2, hC2⟩, hG2⟩
  obtain ⟨va, vc, hv⟩ := own_form ho
  subst hv
  have HS := Lib.hid hs; have HO2 := Lib.hid ho; have HC2 := Lib.hid hC2; have HG2 := Lib.hid hG2
  have hl5 := hs.1
  have hB1 : w.heap.size < (w.alloc (.cells #[.slice ao n cap, .int .i64 0, .int .u64 0] 64)).heap.size := by simp
  have HB1 := Lib.hid hB1
  clear hs ho hC2 hG2 hB1
  go_wp2_with fail
  refine (one54 w2 _ ao n cap k2 4 HC2.out hn (by omega) (by decide) (by decide)).mono ?_
  rintro e w3 ⟨b, rfl, ⟨k3, hk3, hC3⟩, hG3⟩
  have HC3 := Lib.hid hC3; have HG3 := Lib.hid (HG2.out.trans hG3)
  have HO3 := Lib.hid (own_other HO2.out HB1.out hG3)
  clear hC3 hG3 HO2 HC2 HG2
  cases b
  · go_wp2_with fail
    refine (labels65 w3 _ ao n cap k3 HC3.out hn (by omega)).mono ?_
    rintro e w4 ⟨v4, l4, hs4, rfl, ho4, hD4⟩
    obtain ⟨v4a, v4c, hv⟩ := own_form ho4
    subst hv
    have HO5 := Lib.hid (LRow.of_own (own_other HO3.out HB1.out hD4.2)).2
    have HO4 := Lib.hid (LRow.of_own ho4).2
    have HB := Lib.hid (below_cur (HG3.out.trans hD4.2))
    have HS4 := Lib.hid (hs4.more (m' := 5) (by omega))
    clear hs4 ho4 hD4
    go_wp2
    go_ret2
    exact ⟨va, v4a, vc, v4c, l, l4, HS.out, HS4.out, rfl, HO5.out, HO4.out, HB.out⟩
  · have HSrc := Lib.hid ((src_front HO3.out l.length (Nat.le_refl _)).to (alloc_keeps w3 (.cells #[] 31)))
    have HN := Lib.hid (own_none HO3.out)
    rw [List.take_length] at HSrc
    go_wp2_with (at_builtin; refine wpList_append_src _ rfl (.tmp 14) (.tmp 15) rfl rfl w3.heap.size _ 0 [] rfl (own_emptyA (h := w3.heap.size) ?e1 (Nat.le_refl _)) va l.length _ (cellsOf l) rfl HSrc.out HN.out cellsOf_one ?e2 ?e3 ?_)
    case e1 => exact alloc_at _ _
    case e2 => omega
    case e3 => simp
    intro v' w7 hown' hgrow _
    have HR := Lib.hid (rest_app hown' hgrow)
    clear hown' hgrow
    obtain ⟨rA, rc, hv'⟩ := own_form HR.out.1
    subst hv'
    have HO5 := Lib.hid (LRow.of_own (own_below HO3.out HR.out.2)).2
    have HB := Lib.hid ((below_cur HG3.out).trans (HR.out.2.mono (below_cur HG3.out).size))
    go_wp2
    go_ret2
    exact ⟨va, rA, vc, rc, l, l, HS.out, HS.out, rfl, HO5.out, (LRow.of_own HR.out.1).2, HB.out⟩
end Go.Proofs.YtoelcbfbpijfcaaDoor
