/- The walk of the law FnExactEitherOf: for every two lists its call returns true and writes nothing that was there. -/
import Derived.Test.YtnpnbkbcepjjaaaCc7
namespace Go.Proofs.Ytnpnbkbcepjjaaa
open Go.RowKit Go.Deep

set_option maxHeartbeats 8000000 in
set_option maxRecDepth 100000 in
theorem walk_fnExactEitherOf (w : World) (ao : Option Addr) (c : Nat) (a : List Int) (bo : Option Addr) (d : Nat) (b : List Int) (ha : IRow w w.heap.size ao a) (hb : IRow w w.heap.size bo b) :
    Calls Try.prog 4 #[.slice ao a.length c, .slice bo b.length d] w fun e w' => e = .returned (.bool true) ∧ Below w.heap.size w w' := by
  have HA := Lib.hid ha; have HB := Lib.hid hb
  clear ha hb
  by_cases hbig : 1048576 < a.length
  · go_enter Try.func4, Try.ntmps4
    go_wp2
    go_ret
    exact ⟨rfl, Below.refl _ _⟩
  by_cases hbig2 : 1048576 < b.length
  · go_enter Try.func4, Try.ntmps4
    go_wp2
    go_ret
    exact ⟨rfl, Below.refl _ _⟩
  have hn : a.length ≤ 1048576 := by omega
  have hm : b.length ≤ 1048576 := by omega
  have HTa := Lib.hid (fun W hW => toInts ao c a hn W hW)
  have HTb := Lib.hid (fun W hW => toInts bo d b hm W hW)
  have HCm := Lib.hid (fun p q W h1 h2 => eitherM p q a.length b.length a b hn hm W h1 h2)
  have HCi := Lib.hid (fun p q W h1 h2 => eitherI p q a.length b.length a b hn hm W h1 h2)
  have hY : (eithL a b).length ≤ 1048576 := eithL_len hn hm
  have HYi := Lib.hid (eithL_in HA.out.1 HB.out.1)
  unfold LbEnd at HCm HCi
  generalize eithL a b = Y at HCm HCi hY HYi
  generalize okE a b = q at HCm HCi
  have hqq : (q != q) = false := by cases q <;> rfl
  have HEq := Lib.hid (fun p1 p2 c1 c2 W h1 h2 => eqInts p1 p2 c1 c2 Y hY W h1 h2)
  have HEa := Lib.hid (fun p1 p2 c1 c2 W h1 h2 => eqInts p1 p2 c1 c2 a hn W h1 h2)
  have HEb := Lib.hid (fun p1 p2 c1 c2 W h1 h2 => eqInts p1 p2 c1 c2 b hm W h1 h2)
  go_enter Try.func4, Try.ntmps4
  go_wp2_with fail
  refine (HTa.out _ HA.out).mono ?_
  rintro e w1 ⟨rfl, hR1, hb1⟩
  have HI1 := Lib.hid (hR1.irow HA.out.1); have HB1 := Lib.hid hb1
  clear hR1 hb1
  go_wp2_with fail
  refine (HTb.out _ (HB.out.after HB1.out)).mono ?_
  rintro e w2 ⟨rfl, hR2, hb2⟩
  have HJ2 := Lib.hid (hR2.irow HB.out.1); have HI2 := Lib.hid (HI1.out.after hb2); have HB2 := Lib.hid (HB1.out.trans (hb2.mono HB1.out.size))
  clear hR2 hb2 HB1 HI1
  go_wp2_with fail
  refine (HCm.out _ _ _ HI2.out HJ2.out).mono ?_
  rintro e w3 ⟨⟨so, sc, rfl, ho3⟩, hb3⟩
  have HS3 := Lib.hid (irow_own HYi.out ho3); have HB3 := Lib.hid (HB2.out.trans (hb3.mono HB2.out.size))
  clear ho3 hb3 HB2 HI2 HJ2
  go_wp2_with fail
  refine (HTa.out _ (HA.out.after HB3.out)).mono ?_
  rintro e w4 ⟨rfl, hR4, hb4⟩
  have HX4 := Lib.hid hR4; have HC4 := Lib.hid hb4
  clear hR4 hb4
  go_wp2_with fail
  refine (HTb.out _ (HB.out.after (HB3.out.trans (HC4.out.mono HB3.out.size)))).mono ?_
  rintro e w5 ⟨rfl, hR5, hb5⟩
  have HZ5 := Lib.hid hR5; have HX5 := Lib.hid (HX4.out.below hb5); have HC5 := Lib.hid (HC4.out.trans (hb5.mono HC4.out.size))
  have h34 : w3.heap.size < w4.heap.size := HX4.out.lt
  have h45 : w4.heap.size < w5.heap.size := HZ5.out.lt
  clear hR5 hb5 HX4 HC4
  go_wp2_with fail
  refine (HCi.out _ _ _ (HX5.out.irow HA.out.1) (HZ5.out.irow HB.out.1)).mono ?_
  rintro e w6 ⟨⟨go, gc, rfl, ho6⟩, hb6⟩
  have HG6 := Lib.hid (row_own ho6); have HX6 := Lib.hid (HX5.out.below hb6); have HZ6 := Lib.hid (HZ5.out.below hb6); have HC6 := Lib.hid (HC5.out.trans (hb6.mono HC5.out.size))
  clear ho6 hb6 HX5 HZ5 HC5
  go_wp2_with fail
  refine (HEq.out _ _ _ _ _ (HG6.out.irow HYi.out) ((HS3.out.keep HC6.out).more HC6.out.size)).mono ?_
  rintro e w7 ⟨rfl, hb7⟩
  have HG7 := Lib.hid (HG6.out.below hb7); have HX7 := Lib.hid (HX6.out.below hb7); have HZ7 := Lib.hid (HZ6.out.below hb7); have HC7 := Lib.hid (HC6.out.trans (hb7.mono HC6.out.size))
  clear hb7 HG6 HX6 HZ6 HC6
  go_wp2_with fail
  refine (HTa.out _ (HA.out.after (HB3.out.trans (HC7.out.mono HB3.out.size)))).mono ?_
  rintro e w8 ⟨rfl, hR8, hb8⟩
  have HI8 := Lib.hid (hR8.irow HA.out.1); have HG8 := Lib.hid (HG7.out.below hb8); have HX8 := Lib.hid (HX7.out.below hb8); have HZ8 := Lib.hid (HZ7.out.below hb8); have HC8 := Lib.hid (HC7.out.trans (hb8.mono HC7.out.size))
  clear hR8 hb8 HG7 HX7 HZ7 HC7
  go_wp2_with fail
  refine (HEa.out _ _ _ _ _ (HX8.out.irow HA.out.1) HI8.out).mono ?_
  rintro e w9 ⟨rfl, hb9⟩
  have HG9 := Lib.hid (HG8.out.below hb9); have HX9 := Lib.hid (HX8.out.below hb9); have HZ9 := Lib.hid (HZ8.out.below hb9); have HC9 := Lib.hid (HC8.out.trans (hb9.mono HC8.out.size))
  clear hb9 HG8 HX8 HZ8 HC8 HI8
  go_wp2_with fail
  refine (HTb.out _ (HB.out.after (HB3.out.trans (HC9.out.mono HB3.out.size)))).mono ?_
  rintro e w10 ⟨rfl, hR10, hb10⟩
  have HI10 := Lib.hid (hR10.irow HB.out.1); have HG10 := Lib.hid (HG9.out.below hb10); have HX10 := Lib.hid (HX9.out.below hb10); have HZ10 := Lib.hid (HZ9.out.below hb10); have HC10 := Lib.hid (HC9.out.trans (hb10.mono HC9.out.size))
  clear hR10 hb10 HG9 HX9 HZ9 HC9
  go_wp2_with fail
  refine (HEb.out _ _ _ _ _ (HZ10.out.irow HB.out.1) HI10.out).mono ?_
  rintro e w11 ⟨rfl, hb11⟩
  have HG11 := Lib.hid (HG10.out.below hb11); have HX11 := Lib.hid (HX10.out.below hb11); have HZ11 := Lib.hid (HZ10.out.below hb11); have HC11 := Lib.hid (HC10.out.trans (hb11.mono HC10.out.size))
  clear hb11 HG10 HX10 HZ10 HC10 HI10
  go_wp2_with fail
  refine (markI w3.heap.size a.length a.length a.length w3.heap.size 1 _ _ hn (by omega) (Nat.le_refl _) _ HX11.out).mono ?_
  rintro e w12 ⟨rfl, _, hg12, hb12⟩
  have HG12 := Lib.hid (HG11.out.apart hg12 (fun k e => by injection e with e; omega)); have HZ12 := Lib.hid (HZ11.out.apart hg12 (fun e => by injection e with e; omega)); have HC12 := Lib.hid (HC11.out.trans hb12)
  clear hg12 hb12 HG11 HX11 HZ11 HC11
  obtain ⟨k1, hk1⟩ : ∃ k1 : Nat, k1 = 1 + a.length := ⟨_, rfl⟩
  rw [← hk1]
  have hk1' : k1 ≤ 1048577 := by omega
  clear hk1
  go_wp2_with fail
  refine (markI w4.heap.size b.length b.length b.length w3.heap.size k1 _ _ hm (by omega) (by omega) _ HZ12.out).mono ?_
  rintro e w13 ⟨rfl, _, hg13, hb13⟩
  have HG13 := Lib.hid (HG12.out.apart hg13 (fun k e => by injection e with e; omega)); have HC13 := Lib.hid (HC12.out.trans hb13)
  clear hg13 hb13 HG12 HZ12 HC12
  obtain ⟨k2, hk2⟩ : ∃ k2 : Nat, k2 = k1 + b.length := ⟨_, rfl⟩
  rw [← hk2]
  have hk2' : k2 ≤ 4194304 := by omega
  clear hk2
  go_wp2_with fail
  refine (HEq.out _ _ _ _ _ (HG13.out.irow HYi.out) ((HS3.out.keep HC13.out).more HC13.out.size)).mono ?_
  rintro e w14 ⟨rfl, hb14⟩
  have HG14 := Lib.hid (HG13.out.below hb14); have HC14 := Lib.hid (HC13.out.trans (hb14.mono HC13.out.size))
  clear hb14 HG13 HC13
  go_wp2_with fail
  refine (markAll go Y.length gc w5.heap.size 1 _ hY (by omega) _ HG14.out).mono ?_
  rintro e w15 ⟨rfl, hR15, hb15⟩
  have HG15 := Lib.hid hR15; have HC15 := Lib.hid (HC14.out.trans (hb15.mono (by omega)))
  clear hR15 hb15 HG14 HC14
  go_wp2_with fail
  refine (heldAll go Y.length gc w5.heap.size 1 hY (by omega) _ HG15.out).mono ?_
  rintro e w16 ⟨rfl, rfl⟩
  go_wp2_with fail
  refine (HTa.out _ (HA.out.after (HB3.out.trans (HC15.out.mono HB3.out.size)))).mono ?_
  rintro e w17 ⟨rfl, hR17, hb17⟩
  have HI17 := Lib.hid (hR17.irow HA.out.1); have HG17 := Lib.hid (HG15.out.below hb17); have HC17 := Lib.hid (HC15.out.trans (hb17.mono HC15.out.size))
  clear hR17 hb17 HG15 HC15
  go_wp2_with fail
  refine (HTb.out _ (HB.out.after (HB3.out.trans (HC17.out.mono HB3.out.size)))).mono ?_
  rintro e w18 ⟨rfl, hR18, hb18⟩
  have HJ18 := Lib.hid (hR18.irow HB.out.1); have HI18 := Lib.hid (HI17.out.after hb18); have HG18 := Lib.hid (HG17.out.below hb18); have HC18 := Lib.hid (HC17.out.trans (hb18.mono HC17.out.size))
  clear hR18 hb18 HG17 HC17 HI17
  go_wp2_with fail
  refine (HCi.out _ _ _ HI18.out HJ18.out).mono ?_
  rintro e w19 ⟨⟨io, ic, rfl, ho19⟩, hb19⟩
  have HI19 := Lib.hid (irow_own HYi.out ho19); have HG19 := Lib.hid (HG18.out.below hb19); have HC19 := Lib.hid (HC18.out.trans (hb19.mono HC18.out.size))
  clear ho19 hb19 HG18 HC18 HI18 HJ18
  go_wp2_with fail
  refine (HEq.out _ _ _ _ _ HI19.out ((HS3.out.keep HC19.out).more HC19.out.size)).mono ?_
  rintro e w20 ⟨rfl, hb20⟩
  have HG20 := Lib.hid (HG19.out.below hb20); have HC20 := Lib.hid (HC19.out.trans (hb20.mono HC19.out.size))
  clear hb20 HG19 HC19 HI19
  go_wp2_with fail
  refine (heldAll go Y.length gc w5.heap.size 1 hY (by omega) _ HG20.out).mono ?_
  rintro e w21 ⟨rfl, rfl⟩
  have HE := Lib.hid (HB3.out.trans (HC20.out.mono HB3.out.size))
  go_wp2
  go_ret
  exact ⟨rfl, HE.out⟩
end Go.Proofs.Ytnpnbkbcepjjaaa
