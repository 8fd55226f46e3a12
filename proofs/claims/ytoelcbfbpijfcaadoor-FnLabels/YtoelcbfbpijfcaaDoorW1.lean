/- The walk of the law FnLabels: at every two lists of bytes, in a world that holds the program's tables, its call returns true and writes nothing that was there. -/
import Derived.Test.YtoelcbfbpijfcaaDoorDraw15
import Derived.Test.YtoelcbfbpijfcaaDoorSame
import Derived.Test.YtoelcbfbpijfcaaDoorNum
import Derived.Test.YtoelcbfbpijfcaaDoorW3
namespace Go.Proofs.YtoelcbfbpijfcaaDoor
open Go.RowKit Go.Deep

theorem BRow.below {w w' : World} {ao : Option Addr} {n : Nat} (h : BRow w w.heap.size ao n) (hb : Below w.heap.size w w') : BRow w' w'.heap.size ao n := fun hp => by
  obtain ⟨b, off, e, hl, hc⟩ := h hp
  refine ⟨b, off, e, Nat.lt_of_lt_of_le hl hb.size, fun i hi => ?_⟩
  obtain ⟨z, h0, h1, h2⟩ := hc i hi
  exact ⟨z, h0, h1, (hb.cell (p := ⟨b, off + i, none⟩) hl).trans h2⟩
theorem sort_le {l R : List Lab} (hR : ResS l R) : R.length ≤ l.length := by
  by_cases hc : codeB l = 0
  · rw [(hR.1 hc).1.length_eq]; exact List.length_filter_le _ _
  · rw [hR.2 hc]; simp
theorem code_beq (c : Nat) : (((c : Nat) : Int) == 0) = (c == 0) := by
  cases h : (c == 0) with
  | true => have : c = 0 := by simpa using h
            subst this; rfl
  | false => have : c ≠ 0 := by simpa using h
             have : (c : Int) ≠ 0 := by omega
             simpa using this
theorem resC_no {a b : List Lab} (h : okC a b = false) : resC a b = 0 := by unfold resC; rw [h]; rfl
theorem isF_sorted {l R : List Lab} (hc : codeB l = 0) (hR : SortRes l R) {k : Nat} (hk : k < l.length) : isF R l[k].1 = l[k].2 := by
  unfold isF
  rw [sorted_good hc hR]
  exact sorted_is hc hR (List.getElem_mem hk)

set_option maxHeartbeats 8000000 in
set_option maxRecDepth 100000 in
theorem walk_labels (hN : NumSaid) (w : World) (ao : Option Addr) (c n : Nat) (bo : Option Addr) (d m : Nat) (hT : Tabs w) (ha : BRow w w.heap.size ao n) (hb : BRow w w.heap.size bo m) :
    Calls Tryd.prog 3 #[.slice ao n c, .slice bo m d] w fun e w' => e = .returned (.bool true) ∧ Below w.heap.size w w' := by
  have HA := Lib.hid ha
  have HB0 := Lib.hid hb
  clear ha hb
  by_cases hbig : 1048576 < n + m
  · go_enter Tryd.func3, Tryd.ntmps3
    go_wp2_with fail
    refine (big14 w ao bo n m c d).mono ?_
    rintro e w1 ⟨rfl, rfl⟩
    go_wp2
    go_ret
    exact ⟨rfl, Below.refl _ _⟩
  go_enter Tryd.func3, Tryd.ntmps3
  go_wp2_with fail
  refine (big14 w ao bo n m c d).mono ?_
  rintro e w1 ⟨rfl, rfl⟩
  go_wp2_with fail
  refine (draw15 hN w ao n c HA.out (by omega)).mono ?_
  rintro e w1 ⟨a1, c1, l, hs, rfl, ho1, hb1⟩
  have HB := Lib.hid hb1
  have HL := Lib.hid ho1
  have hfit := hs.fit (by omega)
  have hl := hfit.1
  clear hs ho1 hb1
  go_wp2_with fail
  refine (sort16 _ _ l hl w1 (hT.below' HB.out) HL.out).mono ?_
  rintro e w2 ⟨v2, R, rfl, hR, ho2, hb2⟩
  obtain ⟨a2, c2, rfl⟩ := own_slice ho2
  have HR := Lib.hid hR
  have hFR := fit_sort hfit hR
  have hlr := hFR.1
  have hle := sort_le hR
  replace HB := Lib.hid (HB.out.trans (hb2.mono HB.out.size))
  replace HL := Lib.hid (own_below HL.out hb2)
  have HG := Lib.hid ho2
  clear hR ho2 hb2
  obtain ⟨ok, hok⟩ : ∃ c, c = (codeB l == 0) := ⟨_, rfl⟩
  obtain ⟨cd, hcd⟩ : ∃ c, c = codeB l := ⟨_, rfl⟩
  rw [← hok, ← hcd]
  have HOK := Lib.hid hok
  have HCD := Lib.hid hcd
  have hz : ((cd : Int) == 0) = ok := by rw [code_beq, hok, hcd]
  clear hok hcd
  go_wp2_with fail
  refine (sort17 _ _ l hfit w2 HL.out).mono ?_
  rintro e w3 ⟨v3, R3, rfl, hR3, ho3, hb3⟩
  obtain rfl : R3 = R := hR3.unique HR.out
  obtain ⟨a3, c3, rfl⟩ := own_slice ho3
  rw [← HOK.out, ← HCD.out]
  replace HB := Lib.hid (HB.out.trans (hb3.mono HB.out.size))
  replace HL := Lib.hid (own_below HL.out hb3)
  replace HG := Lib.hid (own_below HG.out hb3)
  have HW := Lib.hid (LRow.of_own ho3).2
  clear hR3 ho3 hb3
  have hgg : (ok != ok) = false := by cases ok <;> rfl
  have hcc : ((cd : Int) != (cd : Int)) = false := by simp
  go_wp2_with fail
  refine (same18 a2 a3 c2 c3 R3 R3 hlr hlr w3 (LRow.of_own HG.out).2 HW.out).mono ?_
  rintro e w4 ⟨r, hr, rfl, hb4⟩
  obtain rfl : r = true := hr.2 rfl
  replace HB := Lib.hid (HB.out.trans (hb4.mono HB.out.size))
  replace HL := Lib.hid (own_below HL.out hb4)
  replace HG := Lib.hid (own_below HG.out hb4)
  clear hr hb4 HW
  go_upto_if 66 with fail
  go_cut [] (fun wx => Hid (Below w.heap.size w wx))
  case first =>
    cases ok
    · go_wp2_with fail
      go_meet
      exact HB
    have hc0 : codeB l = 0 := by simpa using HOK.out.symm
    have hSR := HR.out.1 hc0
    have HS := Lib.hid hSR
    have HC0 := Lib.hid hc0
    obtain ⟨hcR, hRR⟩ := sorted_again hc0 hSR
    have HRR : Hid (ResS R3 R3) := Lib.hid ⟨fun _ => hRR, fun h => absurd hcR h⟩
    have HCR := Lib.hid hcR
    have HGd := Lib.hid (sorted_good hc0 hSR)
    clear hc0 hSR hcR hRR
    go_wp2_with fail
    refine (sort16 _ _ R3 hlr w4 (hT.below' HB.out) HG.out).mono ?_
    rintro e w5 ⟨v5, R5, rfl, hR5, ho5, hb5⟩
    obtain rfl : R5 = R3 := hR5.unique HRR.out
    obtain ⟨a5, c5, rfl⟩ := own_slice ho5
    rw [HCR.out]
    replace HB := Lib.hid (HB.out.trans (hb5.mono HB.out.size))
    replace HL := Lib.hid (own_below HL.out hb5)
    replace HG := Lib.hid (own_below HG.out hb5)
    have HW := Lib.hid ho5
    clear hR5 ho5 hb5
    go_wp2_with fail
    refine (good19 a2 c2 R5 hlr w5 (hT.below' HB.out) (LRow.of_own HG.out).2).mono ?_
    rintro e w6 ⟨rfl, hb6⟩
    rw [HGd.out]
    replace HB := Lib.hid (HB.out.trans (hb6.mono HB.out.size))
    replace HL := Lib.hid (own_below HL.out hb6)
    replace HG := Lib.hid (own_below HG.out hb6)
    replace HW := Lib.hid (own_below HW.out hb6)
    clear hb6
    go_wp2_with fail
    refine (same18 a5 a2 c5 c2 R5 R5 hlr hlr w6 (LRow.of_own HW.out).2 (LRow.of_own HG.out).2).mono ?_
    rintro e w7 ⟨r, hr, rfl, hb7⟩
    obtain rfl : r = true := hr.2 rfl
    replace HB := Lib.hid (HB.out.trans (hb7.mono HB.out.size))
    have HLr := Lib.hid (LRow.of_own (own_below HL.out hb7)).2
    have HGr := Lib.hid (LRow.of_own (own_below HG.out hb7)).2
    clear hr hb7 HW HL HG
    have hlb : decide (l.length < R5.length) = false := by simpa using hle
    go_wp2_with fail
    go_loopw [99] (fun i wr => ∃ k : Nat, k ≤ l.length ∧ i = .int .i64 k ∧ Hid (Below w7.heap.size w7 wr)) (fun i _ => l.length - (intOf i).toNat)
    case atStart => exact ⟨0, Nat.zero_le _, rfl, Below.refl _ _⟩
    case round =>
      obtain ⟨k, hk, rfl, hb⟩ := hrel
      by_cases hlt : k < l.length
      · obtain ⟨g, off, hao, hbl, hc⟩ := HLr.out (by omega)
        subst hao
        have c0 := (hb.out.cell (p := ⟨g, off + k * 2, none⟩) hbl).trans (hc k hlt).1
        have c1 := (hb.out.cell (p := ⟨g, off + k * 2 + 1, none⟩) hbl).trans (hc k hlt).2
        have HIs := Lib.hid (isF_sorted HC0.out HS.out hlt)
        clear hc
        generalize l[k] = x at c0 c1 HIs
        obtain ⟨x1, x2⟩ := x
        dsimp only at c0 c1 HIs
        have hss : (x2.toList != x2.toList) = false := by simp
        have HB8 := Lib.hid (hb.out.alloc hb.out.size (.cells #[.string x1, .string x2] 31))
        obtain ⟨k3, k4⟩ := box_cells (wr := wr) (x1 := x1) (x2 := x2) (t := 31) (Below.refl _ _)
        have hB5 : wr.heap.size < (wr.alloc (.cells #[.string x1, .string x2] 31)).heap.size := by simp
        go_upto_region 15 with fail
        generalize wr.alloc (.cells #[.string x1, .string x2] 31) = w8 at HB8 k3 k4 hB5 ⊢
        generalize wr.heap.size = Bx at k3 k4 hB5 ⊢
        clear c0 c1
        go_wp2_with fail
        refine (is20 a2 c2 R5 hlr x1 w8 (hT.below' (HB.out.trans (HB8.out.mono HB.out.size))) (HGr.out.after HB8.out)).mono ?_
        rintro e w9 ⟨rfl, hb9⟩
        rw [HIs.out, HGd.out]
        have k5 := (hb9.cell (p := ⟨Bx, 1, none⟩) hB5).trans k4
        have HB9 := Lib.hid (HB8.out.trans (hb9.mono HB8.out.size))
        clear hb9
        go_wp2_with fail
        go_roundw
        case rel => exact ⟨k + 1, by omega, by go_num, HB9⟩
        case measure => simp [intOf]; omega
      · have HE := Lib.hid (HB.out.trans (hb.out.mono HB.out.size))
        go_wp2_with fail
        go_meet
        exact HE
  case rest =>
    have HB1 := hcut
    clear HG HL HR
    go_wp2_with fail
    refine (draw21 wc bo m d (HB0.out.below HB1.out) (by omega)).mono ?_
    rintro e w5 ⟨pa, pb, ca, cb, a, b, hsa, hsb, rfl, hla, hlb, hb5⟩
    have HBe := Lib.hid (HB1.out.trans (hb5.mono HB1.out.size))
    have hfa := hsa.fit (by omega)
    have hfb := hsb.fit (by omega)
    have hna := hfa.1
    have hnb := hfb.1
    have HPa := Lib.hid hla
    have HPb := Lib.hid hlb
    clear hb5 hsa hsb hla hlb
    go_wp2_with fail
    refine (comp22 pa pb ca cb a b hna hnb w5 (hT.below' HBe.out) HPa.out HPb.out).mono ?_
    rintro e w6 ⟨rfl, hb6⟩
    replace HBe := Lib.hid (HBe.out.trans (hb6.mono HBe.out.size))
    replace HPa := Lib.hid (HPa.out.after hb6)
    replace HPb := Lib.hid (HPb.out.after hb6)
    clear hb6
    obtain ⟨nn, hnn⟩ : ∃ x, x = resC a b := ⟨_, rfl⟩
    obtain ⟨oc, hoc⟩ : ∃ x, x = okC a b := ⟨_, rfl⟩
    rw [← hnn, ← hoc]
    have HNN := Lib.hid hnn
    have HOC := Lib.hid hoc
    have hrg := resC_range a b
    rw [← hnn] at hrg
    clear hnn hoc
    go_wp2_with fail
    refine (comp23 pa pb ca cb a b hfa hfb w6 HPa.out HPb.out).mono ?_
    rintro e w7 ⟨rfl, hb7⟩
    rw [← HNN.out, ← HOC.out]
    replace HBe := Lib.hid (HBe.out.trans (hb7.mono HBe.out.size))
    replace HPa := Lib.hid (HPa.out.after hb7)
    replace HPb := Lib.hid (HPb.out.after hb7)
    clear hb7
    go_wp2_with fail
    refine (comp22 pb pa cb ca b a hnb hna w7 (hT.below' HBe.out) HPb.out HPa.out).mono ?_
    rintro e w8 ⟨rfl, hb8⟩
    rw [resC_swap a b, okC_swap a b, ← HNN.out, ← HOC.out]
    replace HBe := Lib.hid (HBe.out.trans (hb8.mono HBe.out.size))
    replace HPa := Lib.hid (HPa.out.after hb8)
    replace HPb := Lib.hid (HPb.out.after hb8)
    clear hb8
    go_wp2_with fail
    refine (draw24 w8 bo m d (HB0.out.below HBe.out) (by omega)).mono ?_
    rintro e w9 ⟨x, hx, rfl, hb9⟩
    replace HBe := Lib.hid (HBe.out.trans (hb9.mono HBe.out.size))
    replace HPa := Lib.hid (HPa.out.after hb9)
    replace HPb := Lib.hid (HPb.out.after hb9)
    clear hb9
    go_wp2_with fail
    refine (draw25 w9 bo m d (HB0.out.below HBe.out) (by omega)).mono ?_
    rintro e w10 ⟨a10, c10, l10, hs10, rfl, ho10, hb10⟩
    replace HBe := Lib.hid (HBe.out.trans (hb10.mono HBe.out.size))
    replace HPa := Lib.hid (HPa.out.after hb10)
    replace HPb := Lib.hid (HPb.out.after hb10)
    have HP10 := Lib.hid (LRow.of_own ho10).2
    have hf10 := hs10.fit (by omega)
    have hn10 := hf10.1
    clear hb10 hs10 ho10
    have hnm : ∀ y : Bool, (y == y) = true := fun y => by cases y <;> rfl
    have hnm' := hnm (nameB x)
    have hgm' := hnm (goodB l10)
    clear hnm
    cases oc
    · have h0 : nn = 0 := HNN.out.trans (resC_no HOC.out.symm)
      subst h0
      clear HNN HOC hrg
      go_wp2_with fail
      refine (name26 x w10 (hT.below' HBe.out).1).mono ?_
      rintro e w12 ⟨rfl, hb12⟩
      replace HBe := Lib.hid (HBe.out.trans (hb12.mono HBe.out.size))
      replace HP10 := Lib.hid (HP10.out.after hb12)
      clear hb12
      go_wp2_with fail
      refine (name27 x (by omega) w12).mono ?_
      rintro e w13 ⟨rfl, rfl⟩
      go_wp2_with fail
      refine (good19 a10 c10 l10 hn10 w12 (hT.below' HBe.out) HP10.out).mono ?_
      rintro e w14 ⟨rfl, hb14⟩
      replace HBe := Lib.hid (HBe.out.trans (hb14.mono HBe.out.size))
      replace HP10 := Lib.hid (HP10.out.after hb14)
      clear hb14
      go_wp2_with fail
      refine (good28 a10 c10 l10 hf10 w14 HP10.out).mono ?_
      rintro e w15 ⟨rfl, hb15⟩
      replace HBe := Lib.hid (HBe.out.trans (hb15.mono HBe.out.size))
      clear hb15
      go_wp2
      go_ret
      exact ⟨rfl, HBe.out⟩
    · have HZ : Hid (nn = 0 ↔ a = b) := Lib.hid (by rw [HNN.out]; exact resC_zero HOC.out.symm)
      clear HNN HOC
      obtain h3 | h3 | h3 : nn = -1 ∨ nn = 0 ∨ nn = 1 := by omega
      all_goals
        subst h3
        go_wp2_with fail
        refine (same18 pa pb ca cb a b hna hnb w10 HPa.out HPb.out).mono ?_
        rintro e w11 ⟨r, hr, rfl, hb11⟩
        obtain ⟨rr, hrr⟩ : ∃ x : Bool, x = r := ⟨_, rfl⟩
        have hrv := hr.trans HZ.out.symm
        replace HBe := Lib.hid (HBe.out.trans (hb11.mono HBe.out.size))
        replace HP10 := Lib.hid (HP10.out.after hb11)
        clear hb11 hr hrr
        cases r
        all_goals first
          | (exfalso; revert hrv; decide)
          | skip
        clear hrv
        go_wp2_with fail
        refine (name26 x w11 (hT.below' HBe.out).1).mono ?_
        rintro e w12 ⟨rfl, hb12⟩
        replace HBe := Lib.hid (HBe.out.trans (hb12.mono HBe.out.size))
        replace HP10 := Lib.hid (HP10.out.after hb12)
        clear hb12
        go_wp2_with fail
        refine (name27 x (by omega) w12).mono ?_
        rintro e w13 ⟨rfl, rfl⟩
        go_wp2_with fail
        refine (good19 a10 c10 l10 hn10 w12 (hT.below' HBe.out) HP10.out).mono ?_
        rintro e w14 ⟨rfl, hb14⟩
        replace HBe := Lib.hid (HBe.out.trans (hb14.mono HBe.out.size))
        replace HP10 := Lib.hid (HP10.out.after hb14)
        clear hb14
        go_wp2_with fail
        refine (good28 a10 c10 l10 hf10 w14 HP10.out).mono ?_
        rintro e w15 ⟨rfl, hb15⟩
        replace HBe := Lib.hid (HBe.out.trans (hb15.mono HBe.out.size))
        clear hb15
        go_wp2
        go_ret
        exact ⟨rfl, HBe.out⟩
theorem walk_fnLabels (w : World) (ao : Option Addr) (c n : Nat) (bo : Option Addr) (d m : Nat) (hT : Tabs w) (ha : BRow w w.heap.size ao n) (hb : BRow w w.heap.size bo m) :
    Calls Tryd.prog 3 #[.slice ao n c, .slice bo m d] w fun e w' => e = .returned (.bool true) ∧ Below w.heap.size w w' :=
  walk_labels (fun k hk w => num55 k hk w) w ao c n bo d m hT ha hb
end Go.Proofs.YtoelcbfbpijfcaaDoor
