/- The walk of the law FnExactLastOf: the call returns true, and nothing that was there has changed. -/
import Derived.Test.YteiefngamccapaaLo
import Derived.Test.YteiefngamccapaaK5
import Derived.Deep.RegionHeld3
namespace Go.Proofs.Yteiefngamccapaa
open Go.RowKit Go.Deep

set_option maxHeartbeats 8000000 in
set_option maxRecDepth 100000 in
theorem walk_fnExactLastOf (w : World) (ao : Option Addr) (cap : Nat) (l : List Chk) (fl : Int) (hl : l.length ≤ maxLen ∧ FitC l maxLen ∧ CRow w w.heap.size ao l) :
    Calls Try.prog 10 #[.agg #[.slice ao l.length cap, .int .i64 fl]] w fun e w' => e = .returned (.bool true) ∧ Below w.heap.size w w' := by
  obtain ⟨hn, hF, h⟩ := hl
  have HB0 := Lib.hid ((Below.refl w.heap.size w).alloc (Nat.le_refl _) (.cells #[.slice ao l.length cap, .int .i64 fl] 24))
  have HX0 := Lib.hid (Bt.new w (.slice ao l.length cap) (.int .i64 fl) 24)
  have HR0 := Lib.hid (GR.after h HB0.out)
  have HF := Lib.hid hF
  clear h hF
  go_enter Try.func10, Try.ntmps10
  go_wp2_with fail
  refine (szSer ao cap l fl hn HF.out 1048576 (by omega) (by omega) _ HR0.out).mono ?_
  rintro e w1 ⟨⟨r, rfl, hr1, hr⟩, hb1⟩
  have HB1 := Lib.hid (HB0.out.trans (hb1.mono HB0.out.size))
  have HX1 := Lib.hid (HX0.out.below hb1)
  have HR1 := Lib.hid (GR.after HR0.out hb1)
  clear hb1 HB0 HX0 HR0
  rcases hr with rfl | ⟨hr0, hn1, hF1⟩
  · go_wp2
    go_ret
    exact ⟨rfl, HB1.out⟩
  have HF1 := Lib.hid hF1
  have HT := Lib.hid (fun W hW => toSer ao cap l fl hn1 W hW)
  have HC1 := Lib.hid (fun o c W hW => loM o c l fl hn1 HF1.out W hW)
  have HC2 := Lib.hid (fun o c W hW => loI o c l fl hn1 HF1.out W hW)
  have HE := Lib.hid (fun o o' c c' W h1 h2 => eqSer o o' c c' l fl hn1 W h1 h2)
  unfold LoEnd at HC1 HC2
  generalize loB l fl = g at HC1 HC2
  generalize loV l fl = v at HC1 HC2
  obtain ⟨t, u⟩ := v
  simp only at HC1 HC2
  have hst := @run_store_float Try.prog
  have hgg : (g != g) = false := by cases g <;> rfl
  clear hn hF1 hn1
  obtain ⟨x0, x1, _⟩ := HX1.out.cells
  go_wp2_with fail
  refine (HT.out _ HR1.out).mono ?_
  rintro e w2 h2
  obtain ⟨o2, k2, rfl, _, hR2, hb2⟩ := made_ser h2
  have HB2 := Lib.hid (HB1.out.trans (hb2.mono HB1.out.size))
  have HX2 := Lib.hid (HX1.out.below hb2)
  have HR2 := Lib.hid (GR.after HR1.out hb2)
  have HQ2 := Lib.hid hR2
  clear hb2 h2 hR2 x0 x1 HB1 HX1 HR1
  go_wp2_with fail
  refine (HC1.out _ _ _ HQ2.out).mono ?_
  rintro e w3 ⟨rfl, hb3⟩
  have hW3 := (Below.refl w3.heap.size w3).alloc (Nat.le_refl _) (.cells #[.int .i64 t, .float .f64 u] 42)
  have HB3 := Lib.hid ((HB2.out.trans (hb3.mono HB2.out.size)).trans (hW3.mono (Nat.le_trans HB2.out.size hb3.size)))
  have HX3 := Lib.hid ((HX2.out.below hb3).below hW3)
  have HR3 := Lib.hid (GR.after (GR.after HR2.out hb3) hW3)
  have HT3 := Lib.hid (Bt.new w3 (.int .i64 t) (.float .f64 u) 42)
  obtain ⟨W3, hW3e⟩ : ∃ W, W = w3.alloc (.cells #[.int .i64 t, .float .f64 u] 42) := ⟨_, rfl⟩
  rw [← hW3e] at HB3 HX3 HR3 HT3
  have x := HX3.out.cells
  rw [hW3e] at x
  obtain ⟨x0, x1, _⟩ := x
  have hne3 : w3.heap.size ≠ w.heap.size := by have h1 := (HX2.out.below hb3).lt; omega
  clear hb3 hW3 HB2 HX2 HR2 HQ2
  go_wp2_with fail
  rw [← hW3e]
  clear hW3e x0 x1 hne3
  refine (HT.out _ HR3.out).mono ?_
  rintro e w4 h4
  obtain ⟨o4, k4, rfl, _, hR4, hb4⟩ := made_ser h4
  have HW4 := (Below.refl w4.heap.size w4).alloc (Nat.le_refl _) (.cells #[.slice o4 l.length k4, .int .i64 fl] 29)
  have HB4 := Lib.hid ((HB3.out.trans (hb4.mono HB3.out.size)).trans (HW4.mono (Nat.le_trans HB3.out.size hb4.size)))
  have HX4 := Lib.hid ((HX3.out.below hb4).below HW4)
  have HR4 := Lib.hid (GR.after (GR.after HR3.out hb4) HW4)
  have HT4 := Lib.hid ((HT3.out.below hb4).below HW4)
  have HQ4 := Lib.hid (GR.after hR4 HW4)
  have HP4 := Lib.hid (Bt.new w4 (.slice o4 l.length k4) (.int .i64 fl) 29)
  obtain ⟨W4, hW4⟩ : ∃ W, W = w4.alloc (.cells #[.slice o4 l.length k4, .int .i64 fl] 29) := ⟨_, rfl⟩
  rw [← hW4] at HB4 HX4 HR4 HT4 HQ4 HP4
  clear hb4 h4 hR4 HB3 HX3 HR3 HT3 HW4
  go_wp2_with fail
  rw [← hW4]
  clear hW4
  refine (HC2.out _ _ _ HQ4.out).mono ?_
  rintro e w5 ⟨rfl, hb5⟩
  have hW5 := (Below.refl w5.heap.size w5).alloc (Nat.le_refl _) (.cells #[.int .i64 t, .float .f64 u] 42)
  have hb5a := hb5.trans (hW5.mono hb5.size)
  have HB5 := Lib.hid (HB4.out.trans (hb5a.mono HB4.out.size))
  have HX5 := Lib.hid (HX4.out.below hb5a)
  have HP5 := Lib.hid (HP4.out.below hb5a)
  have HT5 := Lib.hid (HT4.out.below hb5a)
  have HR5 := Lib.hid (GR.after HR4.out hb5a)
  have HQ5 := Lib.hid (GR.after HQ4.out hb5a)
  have z := HT5.out.cells
  obtain ⟨z0, z1, _⟩ := z
  have hne5 : w5.heap.size ≠ w3.heap.size := by have h1 := (HT4.out.below hb5).lt; omega
  clear hb5 hb5a hW5 HB4 HX4 HR4 HQ4 HP4 HT4
  go_wp2_with fail
  refine (eq91 t u _).mono ?_
  rintro e w6 ⟨rfl, hb6⟩
  have HB6 := Lib.hid (HB5.out.trans (hb6.mono HB5.out.size))
  have HX6 := Lib.hid (HX5.out.below hb6)
  have HP6 := Lib.hid (HP5.out.below hb6)
  have HArg := Lib.hid (fun (W : World) (hb : Below w6.heap.size w6 W) => GR.after (GR.after HR5.out hb6) hb)
  have HBox := Lib.hid (fun (W : World) (hb : Below w6.heap.size w6 W) => GR.after (GR.after HQ5.out hb6) hb)
  clear hb6 z0 z1 hne5 HB5 HX5 HP5 HR5 HQ5 HT5
  obtain ⟨x0, x1, _⟩ := HX6.out.cells
  obtain ⟨p0, p1, _⟩ := HP6.out.cells
  go_wp2_with fail
  go_region_held3 (fun w' => w'.cell? ⟨w4.heap.size, 0, none⟩ = some (.slice o4 l.length k4) ∧ w'.cell? ⟨w4.heap.size, 1, none⟩ = some (.int .i64 fl) ∧ w'.cell? ⟨w.heap.size, 0, none⟩ = some (.slice ao l.length cap) ∧ w'.cell? ⟨w.heap.size, 1, none⟩ = some (.int .i64 fl)) (exact ⟨by assumption, by assumption, by assumption, by assumption⟩) (first | (go_at_call 14; refine (HT.out _ (HArg.out _ (Below.refl _ _).drew)).mono ?_; rintro e w7 h6; obtain ⟨o6, k6, rfl, _, hR6, hb6'⟩ := made_ser h6; have hb6 := (Below.refl w6.heap.size w6).drew.trans hb6'; clear hb6' h6; obtain ⟨q0, q1, _⟩ := (HP6.out.below hb6).cells; obtain ⟨u0, u1, _⟩ := (HX6.out.below hb6).cells) | (go_at_call 16; refine (HE.out _ _ _ _ _ (HBox.out _ hb6) hR6).mono ?_; rintro e w8 ⟨rfl, hb7'⟩; have hb7 := hb6.trans (hb7'.mono hb6.size); clear hb7'; obtain ⟨r0, r1, _⟩ := (HP6.out.below hb7).cells; obtain ⟨t0, t1, _⟩ := (HX6.out.below hb7).cells))
  all_goals
    have HB7 := Lib.hid (HB6.out.trans (hb7.mono HB6.out.size))
    clear hb6 hb7
    go_wp2
    go_ret
    exact ⟨rfl, HB7.out⟩
end Go.Proofs.Yteiefngamccapaa
