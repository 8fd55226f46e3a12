/- The walk of the law FnExactKeepFrom: at every marks its call returns true and writes nothing that was there. -/
import Derived.Test.YtabkjjbhnapgpaaKd
namespace Go.Proofs.Ytabkjjbhnapgpaa
open Go.RowKit Go.Deep Go.ChangeShapes Go.WideShapes Go.ChangeAt

set_option maxHeartbeats 8000000 in
set_option maxRecDepth 100000 in
theorem walk_fnExactKeepFrom (w : World) (last : Int) (oo : Option Addr) (oc : Nat) (op : List Int) (ro : Option Addr) (rc n : Nat) (g : Nat → Vw) (hp : op.length ≤ maxLen) (hn : n ≤ maxLen) (hm : ∀ k, k < n → (g k).xs.length ≤ maxLen) (h : MH w w.heap.size oo op ro n g) :
    Calls Try.prog 10 #[.agg #[.int .i64 last, .slice oo op.length oc, .slice ro n rc]] w fun e w' => e = .returned (.bool true) ∧ Below w.heap.size w w' := by
  have hb0 := (Below.refl w.heap.size w).alloc (Nat.le_refl _) (.cells #[.int .i64 last, .slice oo op.length oc, .slice ro n rc] 25)
  have HB0 := Lib.hid hb0
  have HX0 := Lib.hid (B3.new w (.int .i64 last) (.slice oo op.length oc) (.slice ro n rc) 25)
  have H0 := Lib.hid (h.below hb0.size hb0)
  have HSz := Lib.hid (fun W hW => szMk last oo oc op ro rc n g hp hn hm W hW)
  clear h hb0 hp hn hm
  go_enter Try.func10, Try.ntmps10
  go_wp2_with fail
  generalize w.alloc (.cells #[.int .i64 last, .slice oo op.length oc, .slice ro n rc] 25) = w0 at HB0 HX0 H0 ⊢
  refine (HSz.out _ H0.out).mono ?_
  rintro e w1 ⟨rfl | ⟨r, hr0, hr, rfl⟩, hb1⟩
  · have HB1 := Lib.hid (HB0.out.trans (hb1.mono HB0.out.size))
    clear hb1
    go_wp2
    go_ret
    exact ⟨rfl, HB1.out⟩
  have hp : op.length ≤ 1048576 := by omega
  have hsum : n + sumV g n ≤ 1048576 := by omega
  have HSm : Hid (SmallC (conL n g)) := Lib.hid (small_of (by omega) (fun k hk => by have := sumV_one g hk; omega))
  have hr1 : ¬ r < 0 := by omega
  have HB1 := Lib.hid (HB0.out.trans (hb1.mono HB0.out.size))
  have HX1 := Lib.hid (HX0.out.below hb1)
  have H1 := Lib.hid (H0.out.below hb1.size hb1)
  obtain ⟨cs, hcs⟩ : ∃ cs, conL n g = cs := ⟨_, rfl⟩
  rw [hcs] at HSm
  have HTo := Lib.hid (fun W hW => toMk' last op cs HSm.out hp oo oc ro rc n g hcs W hW)
  have HSp := Lib.hid (fun oo oc ro rc n g hc W hW => keepFromM' last op cs HSm.out hp oo oc ro rc n g hc W hW)
  have HIm := Lib.hid (fun oo oc ro rc n g hc W hW => keepFromI' last op cs HSm.out hp oo oc ro rc n g hc W hW)
  have HEq := Lib.hid (fun oo qo oc qc ro so rc sc n n' g g' h1 h2 W h3 h4 => eqMk' last op cs HSm.out hp oo qo oc qc ro so rc sc n n' g g' h1 h2 W h3 h4)
  clear hb1 HB0 HX0 H0 hr HSz hsum
  generalize keepV last op cs = Y0 at HSp HIm
  generalize goodMk last op cs = q at HSp HIm
  have hqq : (q != q) = false := by cases q <;> rfl
  have hY0 : (Y0 != Y0) = false := by simp
  obtain ⟨x0, x1, x2⟩ := HX1.out.cells
  go_wp2_with fail
  refine (HTo.out _ H1.out).mono ?_
  rintro e w2 ⟨_, rfl, oo2, oc2, ro2, rc2, n2, g2, rfl, hc2, hM2, _, hb2⟩
  have HB2 := Lib.hid (HB1.out.trans (hb2.mono HB1.out.size))
  have HX2 := Lib.hid (HX1.out.below hb2)
  have H2 := Lib.hid (H1.out.below hb2.size hb2)
  have HM2 := Lib.hid hM2
  clear hM2 hb2 HB1 HX1 H1 x0 x1 x2
  go_wp2_with fail
  refine (HSp.out _ _ _ _ _ _ hc2 _ HM2.out).mono ?_
  rintro e w3 ⟨rfl, hb3⟩
  have HB3 := Lib.hid (HB2.out.trans (hb3.mono HB2.out.size))
  have HX3 := Lib.hid (HX2.out.below hb3)
  have H3 := Lib.hid (H2.out.below hb3.size hb3)
  clear hb3 HB2 HX2 H2 HM2
  obtain ⟨x0, x1, x2⟩ := HX3.out.cells
  go_wp2_with fail
  refine (HTo.out _ H3.out).mono ?_
  rintro e w4 ⟨_, rfl, oo4, oc4, ro4, rc4, n4, g4, rfl, hc4, hM4, _, hb4⟩
  have hba := (Below.refl w4.heap.size w4).alloc (Nat.le_refl _) (.cells #[.int .i64 last, .slice oo4 op.length oc4, .slice ro4 n4 rc4] 30)
  have HB4 := Lib.hid ((HB3.out.trans (hb4.mono HB3.out.size)).trans (hba.mono (Nat.le_trans HB3.out.size hb4.size)))
  have HX4 := Lib.hid ((HX3.out.below hb4).below hba)
  have H4 := Lib.hid ((H3.out.below hb4.size hb4).below hba.size hba)
  have HM4 := Lib.hid (hM4.below hba.size hba)
  have HY4 := Lib.hid (B3.new w4 (.int .i64 last) (.slice oo4 op.length oc4) (.slice ro4 n4 rc4) 30)
  clear hM4 hb4 hba HB3 HX3 H3 x0 x1 x2
  go_wp2_with fail
  generalize w4.alloc (.cells #[.int .i64 last, .slice oo4 op.length oc4, .slice ro4 n4 rc4] 30) = w5 at HB4 HX4 H4 HM4 HY4 ⊢
  refine (HIm.out _ _ _ _ _ _ hc4 _ HM4.out).mono ?_
  rintro e w6 ⟨rfl, hb6⟩
  have HB6 := Lib.hid (HB4.out.trans (hb6.mono HB4.out.size))
  have HX6 := Lib.hid (HX4.out.below hb6)
  have HY6 := Lib.hid (HY4.out.below hb6)
  have H6 := Lib.hid (H4.out.below hb6.size hb6)
  have HM6 := Lib.hid (HM4.out.below hb6.size hb6)
  clear hb6 HB4 HX4 HY4 H4 HM4
  obtain ⟨x0, x1, x2⟩ := HX6.out.cells
  obtain ⟨y0, y1, y2⟩ := HY6.out.cells
  have hb0 := (Below.refl w6.heap.size w6).drew
  go_wp2_with fail
  go_region_held3 (fun W => (W.cell? ⟨w.heap.size, 0, none⟩ = some (.int .i64 last) ∧ W.cell? ⟨w.heap.size, 1, none⟩ = some (.slice oo op.length oc) ∧ W.cell? ⟨w.heap.size, 2, none⟩ = some (.slice ro n rc)) ∧ W.cell? ⟨w4.heap.size, 0, none⟩ = some (.int .i64 last) ∧ W.cell? ⟨w4.heap.size, 1, none⟩ = some (.slice oo4 op.length oc4) ∧ W.cell? ⟨w4.heap.size, 2, none⟩ = some (.slice ro4 n4 rc4)) (exact ⟨⟨by assumption, by assumption, by assumption⟩, by assumption, by assumption, by assumption⟩) (first | (go_at_call 13; refine (HTo.out _ (H6.out.below hb0.size hb0)).mono ?_; rintro e w7 ⟨_, rfl, oo7, oc7, ro7, rc7, n7, g7, rfl, hc7, hM7, _, hb7'⟩; have hb7 := hb0.trans hb7'; clear hb7'; obtain ⟨p0, p1, p2⟩ := (HX6.out.below hb7).cells; obtain ⟨q0, q1, q2⟩ := (HY6.out.below hb7).cells) | (go_at_call 15; refine (HEq.out _ _ _ _ _ _ _ _ _ _ _ _ hc4 hc7 _ (HM6.out.below hb7.size hb7) hM7).mono ?_; rintro e w8 ⟨rfl, hb8'⟩; have hb8 := hb7.trans (hb8'.mono hb7.size); clear hb8'; obtain ⟨r0, r1, r2⟩ := (HX6.out.below hb8).cells; obtain ⟨t0, t1, t2⟩ := (HY6.out.below hb8).cells))
  have HB8 := Lib.hid (HB6.out.trans (hb8.mono HB6.out.size))
  clear hb8 hb7 hM7 hb0
  go_wp2
  go_ret
  exact ⟨rfl, HB8.out⟩
end Go.Proofs.Ytabkjjbhnapgpaa
