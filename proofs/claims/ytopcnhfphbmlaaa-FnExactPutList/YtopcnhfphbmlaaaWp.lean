/- The walk of the law FnExactPutList: for every list its call returns true and writes nothing that was there. -/
import Derived.Test.YtopcnhfphbmlaaaPi
namespace Go.Proofs.Ytopcnhfphbmlaaa
open Go.RowKit Go.Deep

set_option maxHeartbeats 4000000 in
set_option maxRecDepth 100000 in
theorem walk_fnExactPutList (w : World) (ao : Option Addr) (cap : Nat) (l : List Int) (h : IRow w w.heap.size ao l) :
    Calls Try.prog 9 #[.slice ao l.length cap] w fun e w' => e = .returned (.bool true) ∧ Below w.heap.size w w' := by
  have H := Lib.hid h
  clear h
  by_cases hbig : 1048576 < l.length
  · go_enter Try.func9, Try.ntmps9
    go_wp2
    go_ret
    exact ⟨rfl, Below.refl _ _⟩
  have hn : l.length ≤ 1048576 := by omega
  go_enter Try.func9, Try.ntmps9
  go_wp2_with fail
  refine (copy33 ao cap l hn w H.out).mono ?_
  rintro e w1 ⟨rfl, hR1, hb1⟩
  have HI1 := Lib.hid (hR1.irow H.out.1); have HB1 := Lib.hid hb1
  clear hR1 hb1
  go_wp2_with fail
  refine (putl28 _ l.length l hn w1 HI1.out).mono ?_
  rintro e w2 ⟨rfl, hb2⟩
  have HB2 := Lib.hid (HB1.out.trans (hb2.mono HB1.out.size))
  clear hb2 HI1
  have HP := Lib.hid (fun W a c (hi : IRow W W.heap.size a l) => putl27 a c l hn W hi)
  generalize putF l = t at HP ⊢
  generalize fitsL l = r at HP ⊢
  have hrr : (r != r) = false := by cases r <;> rfl
  go_wp2_with fail
  refine (copy33 ao cap l hn w2 (H.out.after HB2.out)).mono ?_
  rintro e w3 ⟨rfl, hR3, hb3⟩
  have HI3 := Lib.hid (hR3.irow H.out.1); have HB3 := Lib.hid (HB2.out.trans (hb3.mono HB2.out.size))
  clear hR3 hb3
  go_wp2_with fail
  refine (HP.out w3 _ l.length HI3.out).mono ?_
  rintro e w4 ⟨rfl, hb4⟩
  have HI4 := Lib.hid (HI3.out.after hb4); have HB4 := Lib.hid (HB3.out.trans (hb4.mono HB3.out.size))
  clear hb4 HI3
  go_wp2_with fail
  refine (copy33 ao cap l hn w4 (H.out.after HB4.out)).mono ?_
  rintro e w5 ⟨rfl, hR5, hb5⟩
  have HI5 := Lib.hid (hR5.irow H.out.1); have HI45 := Lib.hid (HI4.out.after hb5); have HB5 := Lib.hid (HB4.out.trans (hb5.mono HB4.out.size))
  clear hR5 hb5
  go_wp2_with fail
  refine (eq34 _ _ l.length l.length l hn w5 HI45.out HI5.out).mono ?_
  rintro e w6 ⟨rfl, hb6⟩
  have HB6 := Lib.hid (HB5.out.trans (hb6.mono HB5.out.size))
  clear hb6
  go_wp2
  go_ret
  exact ⟨rfl, HB6.out⟩
end Go.Proofs.Ytopcnhfphbmlaaa
