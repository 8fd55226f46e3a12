/- The walks of the laws FnExactGoodSamples and FnExactPackSamples: each call returns true, and nothing that was there has changed. -/
import Derived.Test.YtgjkmcidapfblaaPp
namespace Go.Proofs.Ytgjkmcidapfblaa
open Go.RowKit Go.Deep

set_option maxHeartbeats 2000000 in
set_option maxRecDepth 100000 in
theorem walk_fnExactGoodSamples (w : World) (ao : Option Addr) (cap : Nat) (l : List Smp) (h : l.length ≤ maxLen ∧ FitS l ∧ SRow w w.heap.size ao l) :
    Calls Try.prog 3 #[.slice ao l.length cap] w fun e w' => e = .returned (.bool true) ∧ Below w.heap.size w w' := by
  obtain ⟨hn, hF, hR⟩ := h
  have HF := Lib.hid hF; have HR := Lib.hid hR
  clear hF hR
  go_enter Try.func3, Try.ntmps3
  go_wp2_with fail
  refine (sz50 ao l.length cap hn 1048576 (by omega) (by omega) _).mono ?_
  rintro e w0 ⟨⟨r, rfl, _, hr⟩, rfl⟩
  rcases hr with ⟨rfl, hbig⟩ | ⟨hr0, hsm⟩
  · go_wp2
    go_ret
    exact ⟨rfl, Below.refl _ _⟩
  have hn1 : l.length ≤ 1048576 := by omega
  go_wp2_with fail
  refine (to51 ao cap l hn1 _ HR.out).mono ?_
  rintro e w1 h1
  obtain ⟨o1, k1, rfl, _, hR1, hb1⟩ := made_srow h1
  have HB1 := Lib.hid hb1
  have HC1 := Lib.hid (good26 o1 k1 l HF.out hn1 w1 hR1)
  have HC2 := Lib.hid (fun (o : Option Addr) (k : Nat) (W : World) hW => good25 o k l HF.out hn1 W hW)
  have HR1 := Lib.hid (HR.out.after hb1)
  generalize goodS l = g at HC1 HC2
  have hgg : (g != g) = false := by cases g <;> rfl
  clear hR1 hb1 h1
  go_wp2_with fail
  refine HC1.out.mono ?_
  rintro e w2 ⟨rfl, hb2⟩
  have HB2 := Lib.hid (HB1.out.trans (hb2.mono HB1.out.size))
  have HR2 := Lib.hid (HR1.out.after hb2)
  clear hb2
  go_wp2_with fail
  refine (to51 ao cap l hn1 _ HR2.out).mono ?_
  rintro e w3 h3
  obtain ⟨o3, k3, rfl, _, hR3, hb3⟩ := made_srow h3
  have HB3 := Lib.hid (HB2.out.trans (hb3.mono HB2.out.size))
  have HA3 := Lib.hid hR3
  have HR3 := Lib.hid (HR2.out.after hb3)
  clear hb3 h3 hR3
  go_wp2_with fail
  refine (HC2.out o3 k3 _ HA3.out).mono ?_
  rintro e w4 ⟨rfl, hb4⟩
  have HB4 := Lib.hid (HB3.out.trans (hb4.mono HB3.out.size))
  have HA4 := Lib.hid (HA3.out.after hb4)
  have HR4 := Lib.hid (HR3.out.after hb4)
  clear hb4
  go_wp2_with fail
  refine (to51 ao cap l hn1 _ HR4.out).mono ?_
  rintro e w5 h5
  obtain ⟨o5, k5, rfl, _, hR5, hb5⟩ := made_srow h5
  have HB5 := Lib.hid (HB4.out.trans (hb5.mono HB4.out.size))
  have HA5 := Lib.hid (HA4.out.after hb5)
  have HD5 := Lib.hid hR5
  clear hb5 h5 hR5
  go_wp2_with fail
  refine (eq52 o3 o5 k3 k5 l hn1 _ HA5.out HD5.out).mono ?_
  rintro e w6 ⟨rfl, hb6⟩
  have HB6 := Lib.hid (HB5.out.trans (hb6.mono HB5.out.size))
  clear hb6
  go_wp2
  go_ret
  exact ⟨rfl, HB6.out⟩

set_option maxHeartbeats 2000000 in
set_option maxRecDepth 100000 in
theorem walk_fnExactPackSamples (w : World) (ao : Option Addr) (cap : Nat) (l : List Smp) (h : l.length ≤ maxLen ∧ FitS l ∧ SRow w w.heap.size ao l) :
    Calls Try.prog 7 #[.slice ao l.length cap] w fun e w' => e = .returned (.bool true) ∧ Below w.heap.size w w' := by
  obtain ⟨hn, hF, hR⟩ := h
  have HF := Lib.hid hF; have HR := Lib.hid hR
  clear hF hR
  go_enter Try.func7, Try.ntmps7
  go_wp2_with fail
  refine (sz50 ao l.length cap hn 1048576 (by omega) (by omega) _).mono ?_
  rintro e w0 ⟨⟨r, rfl, _, hr⟩, rfl⟩
  rcases hr with ⟨rfl, hbig⟩ | ⟨hr0, hsm⟩
  · go_wp2
    go_ret
    exact ⟨rfl, Below.refl _ _⟩
  have hn1 : l.length ≤ 1048576 := by omega
  go_wp2_with fail
  refine (to51 ao cap l hn1 _ HR.out).mono ?_
  rintro e w1 h1
  obtain ⟨o1, k1, rfl, _, hR1, hb1⟩ := made_srow h1
  have HB1 := Lib.hid hb1
  have HC1 := Lib.hid (pack24 o1 k1 l HF.out hn1 w1 hR1)
  have HC2 := Lib.hid (fun (o : Option Addr) (k : Nat) (W : World) hW => pack23 o k l HF.out hn1 W hW)
  have HR1 := Lib.hid (HR.out.after hb1)
  unfold PkEnd at HC1 HC2
  generalize pkB l = g at HC1 HC2
  generalize pkR l = q at HC1 HC2
  obtain ⟨s, a, b, c⟩ := q
  unfold chV at HC1 HC2
  simp only at HC1 HC2
  have hgg : (g != g) = false := by cases g <;> rfl
  clear hR1 hb1 h1
  go_wp2_with fail
  refine HC1.out.mono ?_
  rintro e w2 ⟨rfl, hb2⟩
  have hx2 := Bx.new w2 (.string s) (.int .i64 a) (.int .i64 b) (.int .i64 c) 33
  have hb2' := (Below.refl w2.heap.size w2).alloc (Nat.le_refl _) (.cells #[.string s, .int .i64 a, .int .i64 b, .int .i64 c] 33)
  have HX2 := Lib.hid hx2
  have HB2 := Lib.hid ((HB1.out.trans (hb2.mono HB1.out.size)).trans (hb2'.mono (HB1.out.trans (hb2.mono HB1.out.size)).size))
  have HR2 := Lib.hid ((HR1.out.after hb2).after hb2')
  clear hb2 hb2' hx2
  go_wp2_with fail
  generalize w2.alloc (.cells #[.string s, .int .i64 a, .int .i64 b, .int .i64 c] 33) = W2 at HX2 HB2 HR2 ⊢
  refine (to51 ao cap l hn1 _ HR2.out).mono ?_
  rintro e w3 h3
  obtain ⟨o3, k3, rfl, _, hR3, hb3⟩ := made_srow h3
  have HB3 := Lib.hid (HB2.out.trans (hb3.mono HB2.out.size))
  have HA3 := Lib.hid hR3
  have HR3 := Lib.hid (HR2.out.after hb3)
  have HX3 := Lib.hid (HX2.out.below hb3)
  clear hb3 h3 hR3
  go_wp2_with fail
  refine (HC2.out o3 k3 _ HA3.out).mono ?_
  rintro e w4 ⟨rfl, hb4⟩
  have hb4' := (Below.refl w4.heap.size w4).alloc (Nat.le_refl _) (.cells #[.string s, .int .i64 a, .int .i64 b, .int .i64 c] 33)
  have HB4 := Lib.hid ((HB3.out.trans (hb4.mono HB3.out.size)).trans (hb4'.mono (HB3.out.trans (hb4.mono HB3.out.size)).size))
  have HA4 := Lib.hid ((HA3.out.after hb4).after hb4')
  have HR4 := Lib.hid ((HR3.out.after hb4).after hb4')
  obtain ⟨y0, y1, y2, y3, _⟩ := ((HX3.out.below hb4).below hb4').cells
  clear hb4 hb4'
  go_wp2_with fail
  refine (eq56 s a b c _).mono ?_
  rintro e w5 ⟨rfl, hb5⟩
  have HB5 := Lib.hid (HB4.out.trans (hb5.mono HB4.out.size))
  have HA5 := Lib.hid (HA4.out.after hb5)
  have HR5 := Lib.hid (HR4.out.after hb5)
  clear hb5 y0 y1 y2 y3
  go_wp2_with fail
  refine (to51 ao cap l hn1 _ HR5.out).mono ?_
  rintro e w6 h6
  obtain ⟨o6, k6, rfl, _, hR6, hb6⟩ := made_srow h6
  have HB6 := Lib.hid (HB5.out.trans (hb6.mono HB5.out.size))
  have HA6 := Lib.hid (HA5.out.after hb6)
  have HD6 := Lib.hid hR6
  clear hb6 h6 hR6
  go_wp2_with fail
  refine (eq52 o3 o6 k3 k6 l hn1 _ HA6.out HD6.out).mono ?_
  rintro e w7 ⟨rfl, hb7⟩
  have HB7 := Lib.hid (HB6.out.trans (hb7.mono HB6.out.size))
  clear hb7
  go_wp2
  go_ret
  exact ⟨rfl, HB7.out⟩
end Go.Proofs.Ytgjkmcidapfblaa
