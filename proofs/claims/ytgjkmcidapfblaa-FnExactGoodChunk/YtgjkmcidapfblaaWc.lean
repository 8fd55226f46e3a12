/- Contract of GoodChunk in the program, and the walk of the law FnExactGoodChunk. -/
import Derived.Test.YtgjkmcidapfblaaOf
namespace Go.Proofs.Ytgjkmcidapfblaa
open Go.RowKit Go.Deep

set_option maxRecDepth 100000 in
theorem good28 (s : ByteArray) (c1 c2 c3 : Int) (hs : s.size ≤ 1048576) (w : World) : Calls Try.prog 19 #[.agg #[.string s, .int .i64 c1, .int .i64 c2, .int .i64 c3]] w (GdEnd (s, c1, c2, c3) w) := by
  have HB0 := Lib.hid ((Below.refl w.heap.size w).alloc (Nat.le_refl _) (.cells #[.string s, .int .i64 c1, .int .i64 c2, .int .i64 c3] 33))
  unfold GdEnd
  have HC := Lib.hid (fun W => of27 s c1 c2 c3 hs W)
  unfold SoEnd at HC
  generalize soB (s, c1, c2, c3) = b at HC ⊢
  generalize soL (s, c1, c2, c3) = l at HC
  go_enter Try.func19, Try.ntmps19
  go_wp2_with fail
  refine (HC.out _).mono ?_
  rintro e w1 ⟨⟨ao, cp, rfl, _⟩, hb1⟩
  have HB1 := Lib.hid (HB0.out.trans (hb1.mono HB0.out.size))
  clear hb1
  go_wp2
  go_ret
  exact ⟨rfl, HB1.out⟩

set_option maxHeartbeats 2000000 in
set_option maxRecDepth 100000 in
theorem walk_fnExactGoodChunk (w : World) (s : ByteArray) (a b c : Int) (hs : s.size ≤ maxLen) :
    Calls Try.prog 4 #[.agg #[.string s, .int .i64 a, .int .i64 b, .int .i64 c]] w fun e w' => e = .returned (.bool true) ∧ Below w.heap.size w w' := by
  have HB0 := Lib.hid ((Below.refl w.heap.size w).alloc (Nat.le_refl _) (.cells #[.string s, .int .i64 a, .int .i64 b, .int .i64 c] 30))
  have HX0 := Lib.hid (Bx.new w (.string s) (.int .i64 a) (.int .i64 b) (.int .i64 c) 30)
  go_enter Try.func4, Try.ntmps4
  go_wp2_with fail
  refine (sz53 s a b c hs 1048576 (by omega) (by omega) _).mono ?_
  rintro e w0 ⟨⟨r, rfl, _, hr⟩, hb0⟩
  have HB1 := Lib.hid (HB0.out.trans (hb0.mono HB0.out.size))
  have HX1 := Lib.hid (HX0.out.below hb0)
  clear hb0 HB0 HX0
  rcases hr with ⟨rfl, hbig⟩ | ⟨hr0, hsm⟩
  · go_wp2
    go_ret
    exact ⟨rfl, HB1.out⟩
  have hs1 : s.size ≤ 1048576 := by omega
  have HC1 := Lib.hid (fun W => good35 s a b c hs1 W)
  have HC2 := Lib.hid (fun W => good28 s a b c hs1 W)
  unfold GdEnd at HC1 HC2
  generalize soB (s, a, b, c) = g at HC1 HC2
  have hgg : (g != g) = false := by cases g <;> rfl
  obtain ⟨z0, z1, z2, z3, _⟩ := HX1.out.cells
  go_wp2_with fail
  refine (to54 s a b c _).mono ?_
  rintro e w2 ⟨rfl, hb2⟩
  have HB2 := Lib.hid (HB1.out.trans (hb2.mono HB1.out.size))
  have HX2 := Lib.hid (HX1.out.below hb2)
  clear hb2 z0 z1 z2 z3
  go_wp2_with fail
  refine (HC1.out _).mono ?_
  rintro e w3 ⟨rfl, hb3⟩
  have HB3 := Lib.hid (HB2.out.trans (hb3.mono HB2.out.size))
  have HX3 := Lib.hid (HX2.out.below hb3)
  clear hb3
  obtain ⟨z0, z1, z2, z3, _⟩ := HX3.out.cells
  go_wp2_with fail
  refine (to54 s a b c _).mono ?_
  rintro e w4 ⟨rfl, hb4⟩
  have HB4 := Lib.hid (HB3.out.trans (hb4.mono HB3.out.size))
  clear hb4 z0 z1 z2 z3
  go_wp2_with fail
  refine (HC2.out _).mono ?_
  rintro e w5 ⟨rfl, hb5⟩
  have HB5 := Lib.hid (HB4.out.trans (hb5.mono HB4.out.size))
  clear hb5
  go_wp2
  go_ret
  exact ⟨rfl, HB5.out⟩
end Go.Proofs.Ytgjkmcidapfblaa
