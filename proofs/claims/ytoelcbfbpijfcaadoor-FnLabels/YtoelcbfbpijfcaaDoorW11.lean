/- The walk of the law FnExactWithoutNames: at every list of labels and of texts, in a world that holds the program's tables, its call returns true and writes nothing that was there. -/
import Derived.Test.YtoelcbfbpijfcaaDoorWithoutm
import Derived.Test.YtoelcbfbpijfcaaDoorW4
namespace Go.Proofs.YtoelcbfbpijfcaaDoor
open Go.RowKit Go.Deep

theorem fit_res {l : List Lab} {names : List ByteArray} (h : Fit l) : Fit (resW l names) := by
  unfold resW
  cases okW l names
  · exact ⟨by simp, by simp⟩
  · refine ⟨Nat.le_trans (without_le _ _) h.1, fun x hx => h.2 x ?_⟩
    simp only [cond_true, without, List.mem_filter] at hx
    exact hx.1

/-- A row that was there lies apart from one that was made later. -/
theorem own_apart {w1 w2 : World} {b1 b2 : Nat} {e1 e2 : TypeId} {s1 s2 n1 n2 : Nat} {v1 v2 : Value} {x1 x2 : List Value} (h1 : w1.ownsRow b1 e1 s1 v1 n1 x1) (h2 : w2.ownsRow b2 e2 s2 v2 n2 x2) (h : w1.heap.size ≤ b2) :
    (v1.ownBlock = none ∨ v1.ownBlock ≠ v2.ownBlock) ∧ (v2.ownBlock = none ∨ v2.ownBlock ≠ v1.ownBlock) := by
  have hne : ∀ k, v1.ownBlock = some k → v2.ownBlock ≠ some k := by
    intro k hk hk2
    have a := (h1.lt k hk).2
    have b := (h2.lt k hk2).1
    omega
  constructor
  · cases h1' : v1.ownBlock with
    | none => exact .inl rfl
    | some k => exact .inr (fun e => hne k h1' e.symm)
  · cases h2' : v2.ownBlock with
    | none => exact .inl rfl
    | some k => exact .inr (fun e => hne k e.symm h2')

theorem below_marked {w w1 w2 : World} {base : Nat} {e : TypeId} {size n : Nat} {v : Value} {xs : List Value} (hb : Below w.heap.size w w1) (ho : w1.ownsRow base e size v n xs) (hg : w1.grownBy w2 v.ownBlock) (hbase : w.heap.size ≤ base) : Below w.heap.size w w2 :=
  hb.grown hg hb.size (fun k hk => Nat.le_trans hbase (ho.lt k hk).1)

set_option maxHeartbeats 4000000 in
set_option maxRecDepth 100000 in
theorem walk_fnExactWithoutNames (w : World) (ao : Option Addr) (cap : Nat) (l : List Lab) (bo : Option Addr) (cap2 : Nat) (names : List ByteArray) (hT : Tabs w) (hF : Fine l) (h : LRow w w.heap.size ao l) (hF2 : FineT names) (h2 : TRow w w.heap.size bo names) :
    Calls Tryd.prog 13 #[.slice ao l.length cap, .slice bo names.length cap2] w fun e w' => e = .returned (.bool true) ∧ Below w.heap.size w w' := by
  have H := Lib.hid h
  have H2 := Lib.hid h2
  clear h h2
  go_enter Tryd.func13, Tryd.ntmps13
  go_wp2_with fail
  refine (sz42 ao cap l hF 1048576 (by omega) (by omega) w H.out).mono ?_
  rintro e w1 ⟨r, rfl, r1, r2, r3, hb⟩
  have HB := Lib.hid hb
  have R3 := Lib.hid r3
  clear hb r3
  by_cases hneg : r < 0
  · go_wp2
    go_ret
    exact ⟨rfl, HB.out⟩
  have hFit := R3.out (by omega)
  go_wp2_with fail
  refine (sz47 bo cap2 names hF2 r (by omega) (by omega) w1 (H2.out.after HB.out)).mono ?_
  rintro e w2 ⟨s, rfl, s1, s2, s3, hb⟩
  replace HB := Lib.hid (HB.out.trans (hb.mono HB.out.size))
  have S3 := Lib.hid s3
  clear hb s3
  by_cases hneg2 : s < 0
  · go_wp2
    go_ret
    exact ⟨rfl, HB.out⟩
  have hFitT := S3.out (by omega)
  have hl := hFit.1
  have hm := hFitT.1
  have hFR := fit_res (names := names) hFit
  have hlr := hFR.1
  go_wp2_with fail
  refine (to43 ao cap l hFit w2 (H.out.after HB.out)).mono ?_
  intro e w3 hq
  obtain ⟨ao3, c3, rfl, _, hl3, hb3⟩ := made_row hq
  replace HB := Lib.hid (HB.out.trans (hb3.mono HB.out.size))
  have HL3 := Lib.hid hl3
  clear hq hl3 hb3
  go_wp2_with fail
  refine (to48 bo cap2 names hFitT w3 (H2.out.after HB.out)).mono ?_
  rintro e w4 ⟨bo4, c4, rfl, ho4, hb4⟩
  replace HB := Lib.hid (HB.out.trans (hb4.mono HB.out.size))
  replace HL3 := Lib.hid (HL3.out.after hb4)
  have HT4 := Lib.hid (TRow.of_own ho4).2
  clear ho4 hb4
  go_wp2_with fail
  refine (without41 ao3 bo4 c3 c4 l names hFit hm w4 HL3.out HT4.out).mono ?_
  rintro e w5 ⟨v5, rfl, ho5, hb5⟩
  obtain ⟨a5, c5, rfl⟩ := own_slice ho5
  have z5 : w.heap.size ≤ w4.heap.size := HB.out.size
  replace HB := Lib.hid (HB.out.trans (hb5.mono HB.out.size))
  have HW := Lib.hid ho5
  clear ho5 hb5 HL3 HT4
  generalize hok : okW l names = ok
  have HOK := Lib.hid hok
  clear hok
  go_wp2_with fail
  refine (to43 ao cap l hFit w5 (H.out.after HB.out)).mono ?_
  intro e w6 hq
  obtain ⟨a6, c6, rfl, ho6, hl6, hb6⟩ := made_row hq
  have z6 : w.heap.size ≤ w5.heap.size := HB.out.size
  have AWX := Lib.hid (own_apart HW.out ho6 (Nat.le_refl _))
  replace HB := Lib.hid (HB.out.trans (hb6.mono HB.out.size))
  replace HW := Lib.hid (own_below HW.out hb6)
  have HX := Lib.hid ho6
  clear hq ho6 hl6 hb6
  go_wp2_with fail
  refine (to48 bo cap2 names hFitT w6 (H2.out.after HB.out)).mono ?_
  rintro e w7 ⟨b7, c7, rfl, ho7, hb7⟩
  have z7 : w.heap.size ≤ w6.heap.size := HB.out.size
  have AWY := Lib.hid (own_apart HW.out ho7 (Nat.le_refl _))
  have AXY := Lib.hid (own_apart HX.out ho7 (Nat.le_refl _))
  replace HB := Lib.hid (HB.out.trans (hb7.mono HB.out.size))
  replace HW := Lib.hid (own_below HW.out hb7)
  replace HX := Lib.hid (own_below HX.out hb7)
  have HY := Lib.hid ho7
  clear ho7 hb7
  go_wp2_with fail
  refine (without40 a6 b7 c6 c7 l names hl hm w7 (hT.below' HB.out) (LRow.of_own HX.out).2 (TRow.of_own HY.out).2).mono ?_
  rintro e w8 ⟨v8, rfl, ho8, hb8⟩
  rw [HOK.out]
  obtain ⟨a8, c8, rfl⟩ := own_slice ho8
  have z8 : w.heap.size ≤ w7.heap.size := HB.out.size
  have AWG := Lib.hid (own_apart HW.out ho8 (Nat.le_refl _))
  have AXG := Lib.hid (own_apart HX.out ho8 (Nat.le_refl _))
  have AYG := Lib.hid (own_apart HY.out ho8 (Nat.le_refl _))
  replace HB := Lib.hid (HB.out.trans (hb8.mono HB.out.size))
  replace HW := Lib.hid (own_below HW.out hb8)
  replace HX := Lib.hid (own_below HX.out hb8)
  replace HY := Lib.hid (own_below HY.out hb8)
  have HG := Lib.hid ho8
  clear ho8 hb8
  have hgg : (ok != ok) = false := by cases ok <;> rfl
  go_wp2_with fail
  refine (eq44 a8 a5 c8 c5 (resW l names) hFR w8 (LRow.of_own HG.out).2 (LRow.of_own HW.out).2).mono ?_
  rintro e w9 ⟨rfl, hb9⟩
  replace HB := Lib.hid (HB.out.trans (hb9.mono HB.out.size))
  replace HW := Lib.hid (own_below HW.out hb9)
  replace HX := Lib.hid (own_below HX.out hb9)
  replace HY := Lib.hid (own_below HY.out hb9)
  replace HG := Lib.hid (own_below HG.out hb9)
  clear hb9
  go_wp2_with fail
  refine (to43 ao cap l hFit w9 (H.out.after HB.out)).mono ?_
  intro e w10 hq
  obtain ⟨a10, c10, rfl, _, hl10, hb10⟩ := made_row hq
  replace HB := Lib.hid (HB.out.trans (hb10.mono HB.out.size))
  replace HW := Lib.hid (own_below HW.out hb10)
  replace HX := Lib.hid (own_below HX.out hb10)
  replace HY := Lib.hid (own_below HY.out hb10)
  replace HG := Lib.hid (own_below HG.out hb10)
  have HL10 := Lib.hid hl10
  clear hq hl10 hb10
  go_wp2_with fail
  refine (eq44 a6 a10 c6 c10 l hFit w10 (LRow.of_own HX.out).2 HL10.out).mono ?_
  rintro e w11 ⟨rfl, hb11⟩
  replace HB := Lib.hid (HB.out.trans (hb11.mono HB.out.size))
  replace HW := Lib.hid (own_below HW.out hb11)
  replace HX := Lib.hid (own_below HX.out hb11)
  replace HY := Lib.hid (own_below HY.out hb11)
  replace HG := Lib.hid (own_below HG.out hb11)
  clear hb11 HL10
  go_wp2_with fail
  refine (to48 bo cap2 names hFitT w11 (H2.out.after HB.out)).mono ?_
  rintro e w12 ⟨b12, c12, rfl, ho12, hb12⟩
  replace HB := Lib.hid (HB.out.trans (hb12.mono HB.out.size))
  replace HW := Lib.hid (own_below HW.out hb12)
  replace HX := Lib.hid (own_below HX.out hb12)
  replace HY := Lib.hid (own_below HY.out hb12)
  replace HG := Lib.hid (own_below HG.out hb12)
  have HT12 := Lib.hid (TRow.of_own ho12).2
  clear ho12 hb12
  go_wp2_with fail
  refine (eq49 b7 b12 c7 c12 names hFitT w12 (TRow.of_own HY.out).2 HT12.out).mono ?_
  rintro e w13 ⟨rfl, hb13⟩
  replace HB := Lib.hid (HB.out.trans (hb13.mono HB.out.size))
  replace HW := Lib.hid (own_below HW.out hb13)
  replace HX := Lib.hid (own_below HX.out hb13)
  replace HY := Lib.hid (own_below HY.out hb13)
  replace HG := Lib.hid (own_below HG.out hb13)
  clear hb13 HT12
  go_wp2_with fail
  refine (mark45 _ l.length 1 _ _ hl (by omega) w13 HX.out).mono ?_
  rintro e w14 ⟨rfl, ho14, hg14⟩
  replace HB := Lib.hid (below_marked HB.out HX.out hg14 z6)
  replace HW := Lib.hid (HW.out.kept hg14 AWX.out.1)
  replace HY := Lib.hid (HY.out.kept hg14 AXY.out.2)
  replace HG := Lib.hid (HG.out.kept hg14 AXG.out.2)
  clear ho14 hg14 HX
  go_wp2_with fail
  refine (mark50 _ names.length (1 + 2 * l.length) _ _ hm (by omega) w14 HY.out).mono ?_
  rintro e w15 ⟨rfl, hg15⟩
  replace HB := Lib.hid (below_marked HB.out HY.out hg15 z7)
  replace HW := Lib.hid (HW.out.kept hg15 AWY.out.1)
  replace HG := Lib.hid (HG.out.kept hg15 AYG.out.2)
  clear hg15 HY
  go_wp2_with fail
  refine (eq44 a8 a5 c8 c5 (resW l names) hFR w15 (LRow.of_own HG.out).2 (LRow.of_own HW.out).2).mono ?_
  rintro e w16 ⟨rfl, hb16⟩
  replace HB := Lib.hid (HB.out.trans (hb16.mono HB.out.size))
  replace HW := Lib.hid (own_below HW.out hb16)
  replace HG := Lib.hid (own_below HG.out hb16)
  clear hb16
  go_wp2_with fail
  refine (mark45 _ (resW l names).length 1 _ _ hlr (by omega) w16 HG.out).mono ?_
  rintro e w17 ⟨rfl, ho17, hg17⟩
  replace HB := Lib.hid (below_marked HB.out HG.out hg17 z8)
  replace HW := Lib.hid (HW.out.kept hg17 AWG.out.1)
  have HM := Lib.hid ho17
  clear ho17 hg17 HG
  go_wp2_with fail
  refine (held46 (resW l names).length 1 a8 c8 hlr (by omega) w17 (LRow.of_own HM.out).2).mono ?_
  rintro e w18 ⟨rfl, hb18⟩
  replace HB := Lib.hid (HB.out.trans (hb18.mono HB.out.size))
  replace HW := Lib.hid (own_below HW.out hb18)
  replace HM := Lib.hid (own_below HM.out hb18)
  clear hb18
  go_wp2_with fail
  refine (to43 ao cap l hFit w18 (H.out.after HB.out)).mono ?_
  intro e w19 hq
  obtain ⟨a19, c19, rfl, _, hl19, hb19⟩ := made_row hq
  replace HB := Lib.hid (HB.out.trans (hb19.mono HB.out.size))
  replace HW := Lib.hid (own_below HW.out hb19)
  replace HM := Lib.hid (own_below HM.out hb19)
  have HL19 := Lib.hid hl19
  clear hq hl19 hb19
  go_wp2_with fail
  refine (to48 bo cap2 names hFitT w19 (H2.out.after HB.out)).mono ?_
  rintro e w20 ⟨b20, c20, rfl, ho20, hb20⟩
  replace HB := Lib.hid (HB.out.trans (hb20.mono HB.out.size))
  replace HW := Lib.hid (own_below HW.out hb20)
  replace HM := Lib.hid (own_below HM.out hb20)
  replace HL19 := Lib.hid (HL19.out.after hb20)
  have HT20 := Lib.hid (TRow.of_own ho20).2
  clear ho20 hb20
  go_wp2_with fail
  refine (without40 a19 b20 c19 c20 l names hl hm w20 (hT.below' HB.out) HL19.out HT20.out).mono ?_
  rintro e w21 ⟨v21, rfl, ho21, hb21⟩
  rw [HOK.out]
  obtain ⟨a21, c21, rfl⟩ := own_slice ho21
  replace HB := Lib.hid (HB.out.trans (hb21.mono HB.out.size))
  replace HW := Lib.hid (own_below HW.out hb21)
  replace HM := Lib.hid (own_below HM.out hb21)
  have HL21 := Lib.hid (LRow.of_own ho21).2
  clear ho21 hb21 HL19 HT20
  go_wp2_with fail
  refine (eq44 a21 a5 c21 c5 (resW l names) hFR w21 HL21.out (LRow.of_own HW.out).2).mono ?_
  rintro e w22 ⟨rfl, hb22⟩
  replace HB := Lib.hid (HB.out.trans (hb22.mono HB.out.size))
  replace HM := Lib.hid (own_below HM.out hb22)
  clear hb22 HL21 HW
  go_wp2_with fail
  refine (held46 (resW l names).length 1 a8 c8 hlr (by omega) w22 (LRow.of_own HM.out).2).mono ?_
  rintro e w23 ⟨rfl, hb23⟩
  replace HB := Lib.hid (HB.out.trans (hb23.mono HB.out.size))
  clear hb23
  go_wp2
  go_ret
  exact ⟨rfl, HB.out⟩
end Go.Proofs.YtoelcbfbpijfcaaDoor
