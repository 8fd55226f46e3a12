/- The walk of the law FnExactSamplesOf: the call returns true, and nothing that was there has changed. -/
import Derived.Test.YtgjkmcidapfblaaMk
namespace Go.Proofs.Ytgjkmcidapfblaa
open Go.RowKit Go.Deep

theorem own_srow {w : World} {base : Nat} {ao : Option Addr} {n c : Nat} {l : List Smp} (h : w.ownsRow base 41 2 (.slice ao n c) n (cellsS l)) : SRow w w.heap.size ao l := (SRow.of_own h).2

set_option maxHeartbeats 4000000 in
set_option maxRecDepth 100000 in
theorem walk_fnExactSamplesOf (w : World) (s : ByteArray) (a b c : Int) (hs : s.size ≤ maxLen) :
    Calls Try.prog 6 #[.agg #[.string s, .int .i64 a, .int .i64 b, .int .i64 c]] w fun e w' => e = .returned (.bool true) ∧ Below w.heap.size w w' := by
  have HB0 := Lib.hid ((Below.refl w.heap.size w).alloc (Nat.le_refl _) (.cells #[.string s, .int .i64 a, .int .i64 b, .int .i64 c] 30))
  have HX0 := Lib.hid (Bx.new w (.string s) (.int .i64 a) (.int .i64 b) (.int .i64 c) 30)
  go_enter Try.func6, Try.ntmps6
  go_wp2_with fail
  refine (sz53 s a b c hs 1048576 (by omega) (by omega) _).mono ?_
  rintro e w0 ⟨⟨r, rfl, _, hr⟩, hb0⟩
  have HB1 := Lib.hid (HB0.out.trans (hb0.mono HB0.out.size))
  have HX1 := Lib.hid (HX0.out.below hb0)
  clear hb0 HB0 HX0
  rcases hr with ⟨rfl, hbig⟩ | ⟨hr0, hsm⟩
  · go_wp2
    go_ret
    exact ⟨rfl, HB1.out⟩
  have hs1 : s.size ≤ 1048576 := by omega
  have HC1 := Lib.hid (fun W => of42 s a b c hs1 W)
  have HC2 := Lib.hid (fun W => of27 s a b c hs1 W)
  obtain ⟨hfit, h8⟩ := so_fit (s, a, b, c)
  unfold SoEnd at HC1 HC2
  generalize soB (s, a, b, c) = g at HC1 HC2
  generalize soL (s, a, b, c) = l at HC1 HC2 hfit h8
  have hgg : (g != g) = false := by cases g <;> rfl
  clear hfit
  obtain ⟨z0, z1, z2, z3, _⟩ := HX1.out.cells
  go_wp2_with fail
  refine (to54 s a b c _).mono ?_
  rintro e w2 ⟨rfl, hb2⟩
  have HB2 := Lib.hid (HB1.out.trans (hb2.mono HB1.out.size))
  have HX2 := Lib.hid (HX1.out.below hb2)
  clear hb2 z0 z1 z2 z3
  go_wp2_with fail
  refine (HC1.out _).mono ?_
  rintro e w3 ⟨⟨so, sc, rfl, ho3⟩, hb3⟩
  have HB3 := Lib.hid (HB2.out.trans (hb3.mono HB2.out.size))
  have HX3 := Lib.hid (HX2.out.below hb3)
  have HS3 := Lib.hid (own_srow ho3)
  clear hb3 ho3
  obtain ⟨z0, z1, z2, z3, _⟩ := HX3.out.cells
  go_wp2_with fail
  refine (to54 s a b c _).mono ?_
  rintro e w4 ⟨rfl, hb4⟩
  have HB4 := Lib.hid (HB3.out.trans (hb4.mono HB3.out.size))
  have HX4 := Lib.hid (HX3.out.below hb4)
  have HS4 := Lib.hid (HS3.out.after hb4)
  clear hb4 z0 z1 z2 z3
  go_wp2_with fail
  refine (HC2.out _).mono ?_
  rintro e w5 ⟨⟨go, gc, rfl, ho5⟩, hb5⟩
  have HB5 := Lib.hid (HB4.out.trans (hb5.mono HB4.out.size))
  have HX5 := Lib.hid (HX4.out.below hb5)
  have HS5 := Lib.hid (HS4.out.after hb5)
  have HS4b := Lib.hid (HS4.out.below hb5)
  have HO5 := Lib.hid ho5
  have HX45 := HX5
  have hsz45 := hb5.size
  clear hb5 ho5
  go_wp2_with fail
  refine (eq52 go so gc sc l (by omega) _ (own_srow HO5.out) HS5.out).mono ?_
  rintro e w6 ⟨rfl, hb6⟩
  have HB6 := Lib.hid (HB5.out.trans (hb6.mono HB5.out.size))
  have HO6 := Lib.hid (own_below HO5.out hb6)
  have HX6 := Lib.hid (HX5.out.below hb6)
  have HS6 := Lib.hid (HS4b.out.keep fun p hp => hb6.cell (Nat.lt_of_lt_of_le hp hsz45))
  have hsz6 := Nat.le_trans hsz45 hb6.size
  clear hb6
  go_wp2_with fail
  refine (mark57 w4.heap.size l.length _ _ h8 _ HO6.out).mono ?_
  rintro e w7 ⟨rfl, ho7, hg7⟩
  have hlow : ∀ k, (Value.slice go l.length gc).ownBlock = some k → w4.heap.size ≤ k := fun k hk => (HO6.out.lt k hk).1
  have HB67 : Hid (Below w4.heap.size w6 w7) := Lib.hid ((Below.refl _ _).grown hg7 hsz6 hlow)
  have HB7 := Lib.hid (HB6.out.trans (HB67.out.mono HB4.out.size))
  have HO7 := Lib.hid ho7
  have HX7 : Hid (Bx w7 w.heap.size (.string s) (.int .i64 a) (.int .i64 b) (.int .i64 c)) := Lib.hid (by
    obtain ⟨t, ht⟩ := HX6.out
    exact ⟨t, (HB67.out.block _ HX4.out.lt).trans ht⟩)
  have HS7 := Lib.hid (HS6.out.below HB67.out)
  have hsz7 := Nat.le_trans hsz6 HB67.out.size
  clear ho7 hg7 hlow
  go_wp2_with fail
  refine (held58 l.length go gc h8 _ (own_srow HO7.out)).mono ?_
  rintro e w8 ⟨rfl, rfl⟩
  obtain ⟨z0, z1, z2, z3, _⟩ := HX7.out.cells
  go_wp2_with fail
  refine (to54 s a b c _).mono ?_
  rintro e w9 ⟨rfl, hb9⟩
  have HB9 := Lib.hid (HB7.out.trans (hb9.mono HB7.out.size))
  have HO9 := Lib.hid (own_below HO7.out hb9)
  have HS9 := Lib.hid ((HS7.out.more hsz7).after hb9)
  clear hb9 z0 z1 z2 z3
  go_wp2_with fail
  refine (HC2.out _).mono ?_
  rintro e w10 ⟨⟨ho, hc, rfl, ho10⟩, hb10⟩
  have HB10 := Lib.hid (HB9.out.trans (hb10.mono HB9.out.size))
  have HO10 := Lib.hid (own_below HO9.out hb10)
  have HS10 := Lib.hid (HS9.out.after hb10)
  have HR10 := Lib.hid (own_srow ho10)
  clear hb10 ho10
  go_wp2_with fail
  refine (eq52 ho so hc sc l (by omega) _ HR10.out HS10.out).mono ?_
  rintro e w11 ⟨rfl, hb11⟩
  have HB11 := Lib.hid (HB10.out.trans (hb11.mono HB10.out.size))
  have HO11 := Lib.hid (own_below HO10.out hb11)
  clear hb11
  go_wp2_with fail
  refine (held58 l.length go gc h8 _ (own_srow HO11.out)).mono ?_
  rintro e w12 ⟨rfl, rfl⟩
  go_wp2
  go_ret
  exact ⟨rfl, HB11.out⟩
end Go.Proofs.Ytgjkmcidapfblaa
