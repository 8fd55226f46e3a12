/- The walk of the law FnExactSameSamples: the call returns true, and nothing that was there has changed. -/
import Derived.Test.YtgjkmcidapfblaaSs
import Derived.Test.YtgjkmcidapfblaaSh
namespace Go.Proofs.Ytgjkmcidapfblaa
open Go.RowKit Go.Deep

set_option maxHeartbeats 4000000 in
set_option maxRecDepth 100000 in
theorem walk_fnExactSameSamples (w : World) (ao : Option Addr) (cap : Nat) (l : List Smp) (bo : Option Addr) (cap2 : Nat) (m : List Smp) (h : l.length ≤ maxLen ∧ FitS l ∧ SRow w w.heap.size ao l) (h2 : m.length ≤ maxLen ∧ FitS m ∧ SRow w w.heap.size bo m) :
    Calls Try.prog 10 #[.slice ao l.length cap, .slice bo m.length cap2] w fun e w' => e = .returned (.bool true) ∧ Below w.heap.size w w' := by
  obtain ⟨hn, _, hR⟩ := h
  obtain ⟨hm, _, hQ⟩ := h2
  have HR := Lib.hid hR; have HQ := Lib.hid hQ
  clear hR hQ
  go_enter Try.func10, Try.ntmps10
  go_wp2_with fail
  refine (sz50 ao l.length cap hn 1048576 (by omega) (by omega) _).mono ?_
  rintro e w0 ⟨⟨r, rfl, hrl, hr⟩, rfl⟩
  rcases hr with ⟨rfl, hbig⟩ | ⟨hr0, hsm⟩
  · go_wp2
    go_ret
    exact ⟨rfl, Below.refl _ _⟩
  go_wp2_with fail
  refine (sz50 bo m.length cap2 hm r (by omega) (by omega) _).mono ?_
  rintro e w0 ⟨⟨r2, rfl, hrl2, hr2⟩, rfl⟩
  rcases hr2 with ⟨rfl, hbig⟩ | ⟨hr20, hsm2⟩
  · go_wp2
    go_ret
    exact ⟨rfl, Below.refl _ _⟩
  have hn1 : l.length ≤ 1048576 := by omega
  have hm1 : m.length ≤ 1048576 := by omega
  clear hn hm hrl hrl2 hsm hsm2 hr0
  go_wp2_with fail
  refine (to51 ao cap l hn1 _ HR.out).mono ?_
  rintro e w1 h1
  obtain ⟨o1, k1, rfl, _, hR1, hb1⟩ := made_srow h1
  have HB1 := Lib.hid hb1
  have HA1 := Lib.hid hR1
  have HR1 := Lib.hid (HR.out.after hb1)
  have HQ1 := Lib.hid (HQ.out.after hb1)
  clear hR1 hb1 h1
  go_wp2_with fail
  refine (to51 bo cap2 m hm1 _ HQ1.out).mono ?_
  rintro e w2 h2
  obtain ⟨o2, k2, rfl, _, hR2, hb2⟩ := made_srow h2
  have HB2 := Lib.hid (HB1.out.trans (hb2.mono HB1.out.size))
  have HA2 := Lib.hid (HA1.out.after hb2)
  have HD2 := Lib.hid hR2
  have HR2 := Lib.hid (HR1.out.after hb2)
  have HQ2 := Lib.hid (HQ1.out.after hb2)
  have HC1 := Lib.hid (same45 o1 o2 k1 k2 l m hn1 w2 HA2.out HD2.out)
  have HC2 := Lib.hid (fun (o o' : Option Addr) (k k' : Nat) (W : World) hW hW' => same44 o o' k k' l m hn1 W hW hW')
  generalize sameS l m = g at HC1 HC2
  have hgg : (g != g) = false := by cases g <;> rfl
  clear hR2 hb2 h2
  go_wp2_with fail
  refine HC1.out.mono ?_
  rintro e w3 ⟨rfl, hb3⟩
  have HB3 := Lib.hid (HB2.out.trans (hb3.mono HB2.out.size))
  have HR3 := Lib.hid (HR2.out.after hb3)
  have HQ3 := Lib.hid (HQ2.out.after hb3)
  clear hb3
  go_wp2_with fail
  refine (to51 ao cap l hn1 _ HR3.out).mono ?_
  rintro e w4 h4
  obtain ⟨o4, k4, rfl, _, hR4, hb4⟩ := made_srow h4
  have HB4 := Lib.hid (HB3.out.trans (hb4.mono HB3.out.size))
  have HA4 := Lib.hid hR4
  have HR4 := Lib.hid (HR3.out.after hb4)
  have HQ4 := Lib.hid (HQ3.out.after hb4)
  clear hb4 h4 hR4
  go_wp2_with fail
  refine (to51 bo cap2 m hm1 _ HQ4.out).mono ?_
  rintro e w5 h5
  obtain ⟨o5, k5, rfl, _, hR5, hb5⟩ := made_srow h5
  have HB5 := Lib.hid (HB4.out.trans (hb5.mono HB4.out.size))
  have HA5 := Lib.hid (HA4.out.after hb5)
  have HD5 := Lib.hid hR5
  have HR5 := Lib.hid (HR4.out.after hb5)
  have HQ5 := Lib.hid (HQ4.out.after hb5)
  clear hb5 h5 hR5
  go_wp2_with fail
  refine (HC2.out o4 o5 k4 k5 _ HA5.out HD5.out).mono ?_
  rintro e w6 ⟨rfl, hb6⟩
  have HB6 := Lib.hid (HB5.out.trans (hb6.mono HB5.out.size))
  have HA6 := Lib.hid (HA5.out.after hb6)
  have HD6 := Lib.hid (HD5.out.after hb6)
  have HR6 := Lib.hid (HR5.out.after hb6)
  have HQ6 := Lib.hid (HQ5.out.after hb6)
  clear hb6
  go_wp2_with fail
  refine (to51 ao cap l hn1 _ HR6.out).mono ?_
  rintro e w7 h7
  obtain ⟨o7, k7, rfl, _, hR7, hb7⟩ := made_srow h7
  have HB7 := Lib.hid (HB6.out.trans (hb7.mono HB6.out.size))
  have HA7 := Lib.hid (HA6.out.after hb7)
  have HD7 := Lib.hid (HD6.out.after hb7)
  have HQ7 := Lib.hid (HQ6.out.after hb7)
  have HE7 := Lib.hid hR7
  clear hb7 h7 hR7
  go_wp2_with fail
  refine (eq52 o4 o7 k4 k7 l hn1 _ HA7.out HE7.out).mono ?_
  rintro e w8 ⟨rfl, hb8⟩
  have HB8 := Lib.hid (HB7.out.trans (hb8.mono HB7.out.size))
  have HD8 := Lib.hid (HD7.out.after hb8)
  have HQ8 := Lib.hid (HQ7.out.after hb8)
  clear hb8
  go_wp2_with fail
  refine (to51 bo cap2 m hm1 _ HQ8.out).mono ?_
  rintro e w9 h9
  obtain ⟨o9, k9, rfl, _, hR9, hb9⟩ := made_srow h9
  have HB9 := Lib.hid (HB8.out.trans (hb9.mono HB8.out.size))
  have HD9 := Lib.hid (HD8.out.after hb9)
  have HE9 := Lib.hid hR9
  clear hb9 h9 hR9
  go_wp2_with fail
  refine (eq52 o5 o9 k5 k9 m hm1 _ HD9.out HE9.out).mono ?_
  rintro e w10 ⟨rfl, hb10⟩
  have HB10 := Lib.hid (HB9.out.trans (hb10.mono HB9.out.size))
  clear hb10
  go_wp2
  go_ret
  exact ⟨rfl, HB10.out⟩
end Go.Proofs.Ytgjkmcidapfblaa
