/- The walk of the law FnExactCutAt: the call returns true, and nothing that was there has changed. -/
import Derived.Test.YtgjkmcidapfblaaCu
import Derived.Test.YtgjkmcidapfblaaCv
namespace Go.Proofs.Ytgjkmcidapfblaa
open Go.RowKit Go.Deep

theorem two_new (w : World) (p0 p1 p2 p3 q0 q1 q2 q3 : Value) : ∃ W, W = (w.alloc (.cells #[p0, p1, p2, p3] 33)).alloc (.cells #[q0, q1, q2, q3] 33) ∧ Bx W w.heap.size p0 p1 p2 p3 ∧ Bx W (w.heap.size + 1) q0 q1 q2 q3 ∧ Below w.heap.size w W := by
  refine ⟨_, rfl, ?_, ?_, ?_⟩
  · exact (Bx.new w p0 p1 p2 p3 33).alloc _
  · have h := Bx.new (w.alloc (.cells #[p0, p1, p2, p3] 33)) q0 q1 q2 q3 33
    rw [World.size_alloc] at h
    exact h
  · exact ((Below.refl _ _).alloc (Nat.le_refl _) _).alloc (by simp) _

set_option maxHeartbeats 4000000 in
set_option maxRecDepth 100000 in
theorem walk_fnExactCutAt (w : World) (s : ByteArray) (a b c t : Int) (hs : s.size ≤ maxLen) :
    Calls Try.prog 8 #[.agg #[.string s, .int .i64 a, .int .i64 b, .int .i64 c], .int .i64 t] w fun e w' => e = .returned (.bool true) ∧ Below w.heap.size w w' := by
  have HB0 := Lib.hid ((Below.refl w.heap.size w).alloc (Nat.le_refl _) (.cells #[.string s, .int .i64 a, .int .i64 b, .int .i64 c] 30))
  have HX0 := Lib.hid (Bx.new w (.string s) (.int .i64 a) (.int .i64 b) (.int .i64 c) 30)
  go_enter Try.func8, Try.ntmps8
  go_wp2_with fail
  refine (sz53 s a b c hs 1048576 (by omega) (by omega) _).mono ?_
  rintro e w0 ⟨⟨r, rfl, _, hr⟩, hb0⟩
  have HB1 := Lib.hid (HB0.out.trans (hb0.mono HB0.out.size))
  have HX1 := Lib.hid (HX0.out.below hb0)
  clear hb0 HB0 HX0
  rcases hr with ⟨rfl, hbig⟩ | ⟨hr0, hsm⟩
  · go_wp2
    go_ret
    exact ⟨rfl, HB1.out⟩
  have hs1 : s.size ≤ 1048576 := by omega
  have HC1 := Lib.hid (fun W => cut34 s a b c t hs1 W)
  have HC2 := Lib.hid (fun W => cut33 s a b c t hs1 W)
  unfold CtEnd at HC1 HC2
  generalize soB (s, a, b, c) = g at HC1 HC2
  generalize ctA (s, a, b, c) t = p at HC1 HC2
  generalize ctB (s, a, b, c) t = q at HC1 HC2
  obtain ⟨s1, x1, y1, z1⟩ := p
  obtain ⟨s2, x2, y2, z2⟩ := q
  unfold chV at HC1 HC2
  simp only at HC1 HC2
  have hgg : (g != g) = false := by cases g <;> rfl
  obtain ⟨z0, z1', z2', z3, _⟩ := HX1.out.cells
  go_wp2_with fail
  refine (to54 s a b c _).mono ?_
  rintro e w2 ⟨rfl, hb2⟩
  have HB2 := Lib.hid (HB1.out.trans (hb2.mono HB1.out.size))
  have HX2 := Lib.hid (HX1.out.below hb2)
  clear hb2 z0 z1' z2' z3
  go_wp2_with fail
  refine (HC1.out _).mono ?_
  rintro e w3 ⟨rfl, hb3⟩
  have HB3 := Lib.hid (HB2.out.trans (hb3.mono HB2.out.size))
  have HX3 := Lib.hid (HX2.out.below hb3)
  clear hb3
  obtain ⟨Wc, hWc, hp, hq, hbc⟩ := two_new w3 (.string s1) (.int .i64 x1) (.int .i64 y1) (.int .i64 z1) (.string s2) (.int .i64 x2) (.int .i64 y2) (.int .i64 z2)
  have HBc := Lib.hid (HB3.out.trans (hbc.mono HB3.out.size))
  have HP := Lib.hid hp
  have HQ := Lib.hid hq
  have HXc := Lib.hid (HX3.out.below hbc)
  have hl3 := HX3.out.lt
  have hn3 : w3.heap.size ≠ w.heap.size := by omega
  have hn3' : w3.heap.size + 1 ≠ w.heap.size := by omega
  have y := HXc.out.cells
  rw [hWc] at y
  obtain ⟨z0, z1', z2', z3, _⟩ := y
  clear hp hq hbc
  go_wp2_with fail
  rw [← hWc]
  clear z0 z1' z2' z3 hWc hl3 hn3 hn3'
  refine (to54 s a b c _).mono ?_
  rintro e w4 ⟨rfl, hb4⟩
  have HB4 := Lib.hid (HBc.out.trans (hb4.mono HBc.out.size))
  have HP4 := Lib.hid (HP.out.below hb4)
  have HQ4 := Lib.hid (HQ.out.below hb4)
  clear hb4
  go_wp2_with fail
  refine (HC2.out _).mono ?_
  rintro e w5 ⟨rfl, hb5⟩
  have HB5 := Lib.hid (HB4.out.trans (hb5.mono HB4.out.size))
  have HP5 := Lib.hid (HP4.out.below hb5)
  have HQ5 := Lib.hid (HQ4.out.below hb5)
  clear hb5
  obtain ⟨We, hWe, hp, hq, hbe⟩ := two_new w5 (.string s1) (.int .i64 x1) (.int .i64 y1) (.int .i64 z1) (.string s2) (.int .i64 x2) (.int .i64 y2) (.int .i64 z2)
  have HBe := Lib.hid (HB5.out.trans (hbe.mono HB5.out.size))
  have HPe := Lib.hid (HP5.out.below hbe)
  have HQe := Lib.hid (HQ5.out.below hbe)
  have HRe := Lib.hid hp
  have HSe := Lib.hid hq
  have hl5 := HP5.out.lt
  have hl5' := HQ5.out.lt
  have hn5 : w5.heap.size ≠ w3.heap.size := by omega
  have hn5' : w5.heap.size + 1 ≠ w3.heap.size := by omega
  have y := HPe.out.cells
  have u := hp.cells
  rw [hWe] at y u
  obtain ⟨d0, d1, d2, d3, _⟩ := y
  obtain ⟨e0, e1, e2, e3, _⟩ := u
  clear hp hq hbe
  go_wp2_with fail
  rw [← hWe]
  clear hWe hn5 hn5' d0 d1 d2 d3 e0 e1 e2 e3 hl5 hl5'
  refine (eq56 s1 x1 y1 z1 _).mono ?_
  rintro e w6 ⟨rfl, hb6⟩
  have HB6 := Lib.hid (HBe.out.trans (hb6.mono HBe.out.size))
  obtain ⟨d0, d1, d2, d3, _⟩ := (HQe.out.below hb6).cells
  obtain ⟨e0, e1, e2, e3, _⟩ := (HSe.out.below hb6).cells
  clear hb6
  go_wp2_with fail
  refine (eq56 s2 x2 y2 z2 _).mono ?_
  rintro e w7 ⟨rfl, hb7⟩
  have HB7 := Lib.hid (HB6.out.trans (hb7.mono HB6.out.size))
  clear hb7
  go_wp2
  go_ret
  exact ⟨rfl, HB7.out⟩
end Go.Proofs.Ytgjkmcidapfblaa
