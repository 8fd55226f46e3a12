/- The walk of the law FnExactSeesId: for every view and every number its call returns true and writes nothing that was there. -/
import Derived.Test.YtabkjjbhnapgpaaKa
import Derived.Test.YtabkjjbhnapgpaaVy
namespace Go.Proofs.Ytabkjjbhnapgpaa
open Go.RowKit Go.Deep Go.ChangeShapes Go.WideShapes Go.ChangeAt

set_option maxHeartbeats 4000000 in
set_option maxRecDepth 100000 in
theorem walk_fnExactSeesId (w : World) (u : Vw) (id : Int) (hl : u.xs.length ≤ maxLen) (h : IRow w w.heap.size u.ao u.xs) (_hid : -9223372036854775808 ≤ id ∧ id ≤ 9223372036854775807) :
    Calls Try.prog 9 #[.agg #[.int .i64 u.id, .int .i64 u.top, .slice u.ao u.xs.length u.cap], .int .i64 id] w fun e w' => e = .returned (.bool true) ∧ Below w.heap.size w w' := by
  have hb0 := (Below.refl w.heap.size w).alloc (Nat.le_refl _) (.cells #[.int .i64 u.id, .int .i64 u.top, .slice u.ao u.xs.length u.cap] 48)
  have HB0 := Lib.hid hb0
  have HX0 := Lib.hid (B3.new w (.int .i64 u.id) (.int .i64 u.top) (.slice u.ao u.xs.length u.cap) 48)
  have H0 := Lib.hid (h.below hb0.size hb0)
  have HIn := Lib.hid h.1
  have HSz := Lib.hid (szV u 1048576 hl (by omega) (by omega))
  clear h hb0 hl
  go_enter Try.func9, Try.ntmps9
  go_wp2_with fail
  generalize w.alloc (.cells #[.int .i64 u.id, .int .i64 u.top, .slice u.ao u.xs.length u.cap] 48) = w0 at HB0 HX0 H0 ⊢
  refine (HSz.out _).mono ?_
  rintro e w1 ⟨rfl | ⟨r, hr0, hr, rfl⟩, hb1⟩
  · have HB1 := Lib.hid (HB0.out.trans (hb1.mono HB0.out.size))
    clear hb1
    go_wp2
    go_ret
    exact ⟨rfl, HB1.out⟩
  have hn : u.xs.length ≤ 1048576 := by omega
  have hr1 : ¬ r < 0 := by omega
  have HB1 := Lib.hid (HB0.out.trans (hb1.mono HB0.out.size))
  have HX1 := Lib.hid (HX0.out.below hb1)
  have H1 := Lib.hid (H0.out.below hb1.size hb1)
  have HTo := Lib.hid (fun W hW => toV u hn W hW)
  have HSp := Lib.hid (fun ao cap W hW => sees32M ⟨u.id, u.top, ao, cap, u.xs⟩ id hn W hW)
  have HIm := Lib.hid (fun ao cap W hW => seesI ⟨u.id, u.top, ao, cap, u.xs⟩ id hn W hW)
  have HEq := Lib.hid (fun ao bo c d W h1 h2 => eqV u.id u.top ao bo c d u.xs hn W h1 h2)
  clear hb1 HB0 HX0 H0 hr HSz
  simp only at HSp HIm
  generalize seesM u.top u.xs id = q at HSp HIm
  have hqq : (q != q) = false := by cases q <;> rfl
  obtain ⟨x0, x1, x2⟩ := HX1.out.cells
  go_wp2_with fail
  refine (HTo.out _ H1.out).mono ?_
  rintro e w2 ⟨s2, rfl, _, hR2, hb2⟩
  have HB2 := Lib.hid (HB1.out.trans (hb2.mono HB1.out.size))
  have HX2 := Lib.hid (HX1.out.below hb2)
  have H2 := Lib.hid (H1.out.below hb2.size hb2)
  have HI2 := Lib.hid (hR2.irow HIn.out)
  clear hR2 hb2 HB1 HX1 H1 x0 x1 x2
  go_wp2_with fail
  refine (HSp.out _ _ _ HI2.out).mono ?_
  rintro e w3 ⟨rfl, hb3⟩
  have HB3 := Lib.hid (HB2.out.trans (hb3.mono HB2.out.size))
  have HX3 := Lib.hid (HX2.out.below hb3)
  have H3 := Lib.hid (H2.out.below hb3.size hb3)
  clear hb3 HB2 HX2 H2 HI2
  obtain ⟨x0, x1, x2⟩ := HX3.out.cells
  go_wp2_with fail
  refine (HTo.out _ H3.out).mono ?_
  rintro e w4 ⟨s4, rfl, _, hR4, hb4⟩
  have hba := (Below.refl w4.heap.size w4).alloc (Nat.le_refl _) (.cells #[.int .i64 u.id, .int .i64 u.top, .slice (some ⟨s4, 0, none⟩) u.xs.length u.xs.length] 43)
  have HB4 := Lib.hid ((HB3.out.trans (hb4.mono HB3.out.size)).trans (hba.mono (Nat.le_trans HB3.out.size hb4.size)))
  have HX4 := Lib.hid ((HX3.out.below hb4).below hba)
  have H4 := Lib.hid ((H3.out.below hb4.size hb4).below hba.size hba)
  have HI4 := Lib.hid ((hR4.irow HIn.out).below hba.size hba)
  have HY4 := Lib.hid (B3.new w4 (.int .i64 u.id) (.int .i64 u.top) (.slice (some ⟨s4, 0, none⟩) u.xs.length u.xs.length) 43)
  clear hR4 hb4 hba HB3 HX3 H3 x0 x1 x2
  go_wp2_with fail
  generalize w4.alloc (.cells #[.int .i64 u.id, .int .i64 u.top, .slice (some ⟨s4, 0, none⟩) u.xs.length u.xs.length] 43) = w5 at HB4 HX4 H4 HI4 HY4 ⊢
  refine (HIm.out _ _ _ HI4.out).mono ?_
  rintro e w6 ⟨rfl, hb6⟩
  have HB6 := Lib.hid (HB4.out.trans (hb6.mono HB4.out.size))
  have HX6 := Lib.hid (HX4.out.below hb6)
  have HY6 := Lib.hid (HY4.out.below hb6)
  have H6 := Lib.hid (H4.out.below hb6.size hb6)
  have HI6 := Lib.hid (HI4.out.below hb6.size hb6)
  clear hb6 HB4 HX4 HY4 H4 HI4
  obtain ⟨x0, x1, x2⟩ := HX6.out.cells
  obtain ⟨y0, y1, y2⟩ := HY6.out.cells
  have hb0 := (Below.refl w6.heap.size w6).drew
  go_wp2_with fail
  go_region_held3 (fun W => (W.cell? ⟨w.heap.size, 0, none⟩ = some (.int .i64 u.id) ∧ W.cell? ⟨w.heap.size, 1, none⟩ = some (.int .i64 u.top) ∧ W.cell? ⟨w.heap.size, 2, none⟩ = some (.slice u.ao u.xs.length u.cap)) ∧ W.cell? ⟨w4.heap.size, 0, none⟩ = some (.int .i64 u.id) ∧ W.cell? ⟨w4.heap.size, 1, none⟩ = some (.int .i64 u.top) ∧ W.cell? ⟨w4.heap.size, 2, none⟩ = some (.slice (some ⟨s4, 0, none⟩) u.xs.length u.xs.length)) (exact ⟨⟨by assumption, by assumption, by assumption⟩, by assumption, by assumption, by assumption⟩) (first | (go_at_call 33; refine (HTo.out _ (H6.out.below hb0.size hb0)).mono ?_; rintro e w7 ⟨s7, rfl, _, hR7, hb7'⟩; have hb7 := hb0.trans hb7'; clear hb7'; obtain ⟨p0, p1, p2⟩ := (HX6.out.below hb7).cells; obtain ⟨q0, q1, q2⟩ := (HY6.out.below hb7).cells) | (go_at_call 26; refine (HEq.out _ _ _ _ _ (HI6.out.below hb7.size hb7) (hR7.irow HIn.out)).mono ?_; rintro e w8 ⟨rfl, hb8'⟩; have hb8 := hb7.trans (hb8'.mono hb7.size); clear hb8'; obtain ⟨r0, r1, r2⟩ := (HX6.out.below hb8).cells; obtain ⟨t0, t1, t2⟩ := (HY6.out.below hb8).cells))
  have HB8 := Lib.hid (HB6.out.trans (hb8.mono HB6.out.size))
  clear hb8 hb7 hR7 hb0
  go_wp2
  go_ret
  exact ⟨rfl, HB8.out⟩
end Go.Proofs.Ytabkjjbhnapgpaa
