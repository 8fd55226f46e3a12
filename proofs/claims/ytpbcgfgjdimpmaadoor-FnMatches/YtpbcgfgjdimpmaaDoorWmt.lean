/- The walk of the law FnMatcherTexts: at every two lists of bytes, in a world that holds the program's tables, its call returns true and writes nothing that was there. -/
import Derived.Test.YtpbcgfgjdimpmaaDoorSpoil
import Derived.Test.YtpbcgfgjdimpmaaDoorJm
import Derived.Laws.StructEq
namespace Go.Proofs.YtpbcgfgjdimpmaaDoor
open Go.RowKit Go.Deep

theorem ret_bool' {a b : Bool} (h : a = b) : Ending.returned (.bool b) = .returned (.bool a) := by rw [h]
theorem big14 (w : World) (ao bo : Option Addr) (n m c d : Nat) : Calls Tryd.prog 14 #[.slice ao n c, .slice bo m d] w fun e w' => e = .returned (.bool (decide (1048576 < n + m))) ∧ w = w' := by
  by_cases h1 : 1048576 < n
  · go_enter Tryd.func14, Tryd.ntmps14
    go_wp2
    go_ret
    exact ⟨ret_bool' (by simp; omega), rfl⟩
  · go_enter Tryd.func14, Tryd.ntmps14
    go_wp2
    go_ret
    exact ⟨ret_bool' (by rw [Bool.eq_iff_iff]; simp; omega), rfl⟩


set_option maxRecDepth 100000 in
theorem neq43 (k : Int) (x y : ByteArray) (w : World) : (binOp .neq 43 (.agg #[.int .i64 k, .string x, .string y]) (.agg #[.int .i64 k, .string x, .string y])).run Tryd.prog w = .ok (.bool false) w := by
  have u3 := Tryd.underlying3
  have a3 := Tryd.isAgg3
  have z3 := Tryd.sizeOf3
  have u9 := Tryd.underlying9
  have a9 := Tryd.isAgg9
  have z9 := Tryd.sizeOf9
  have hS : Tryd.prog.underlying 43 = some (.struct (Tryd.prog.fieldsOf 43)) := by kernel_rfl
  have hp : Tryd.prog.stoodInHeld 43 = false := by kernel_rfl
  rw [run_neq_struct, show (10000 : Nat) = 9999 + 1 from rfl, run_equalIn_agg w 9999 43 _ _ hS hp]
  simp only [Program.fieldsOf, Tryd.underlying43]
  go_simp
theorem grd43 (op : BinOp) (a b : Operand) (k k' : Int) (x y x' y' : ByteArray) (w : World) : (eqGuard op 43 a b (.agg #[.int .i64 k, .string x, .string y]) (.agg #[.int .i64 k', .string x', .string y'])).run Tryd.prog w = .ok () w :=
  run_eqGuard_agg w op 43 a b _ _ (by kernel_rfl)
set_option maxHeartbeats 20000000 in
set_option maxRecDepth 100000 in
theorem walk_fnMatcherTexts (w : World) (ao : Option Addr) (c n : Nat) (bo : Option Addr) (d m : Nat) (hT : Tabs w ∧ MaxC w) (ha : BRow w w.heap.size ao n) (hb : BRow w w.heap.size bo m) :
    Calls Tryd.prog 5 #[.slice ao n c, .slice bo m d] w fun e w' => e = .returned (.bool true) ∧ Below w.heap.size w w' := by
  have HT := Lib.hid hT
  have HA := Lib.hid ha
  have HBr := Lib.hid hb
  clear hT ha hb
  go_enter Tryd.func5, Tryd.ntmps5
  go_wp2_with fail
  refine (big14 w ao bo n m c d).mono ?_
  rintro e w0 ⟨rfl, rfl⟩
  by_cases hbig : 1048576 < n + m
  · have hq : decide (1048576 < n + m) = true := by simpa using hbig
    rw [hq]
    go_wp2
    go_ret
    exact ⟨rfl, Below.refl _ _⟩
  have hq : decide (1048576 < n + m) = false := by simpa using hbig
  rw [hq]
  go_wp2_with fail
  refine (draw45 w ao n c HA.out (by omega)).mono ?_
  rintro e w1 ⟨k, x, y, hx, hy, rfl, hb1⟩
  have HB1 := Lib.hid (hb1.alloc hb1.size (.cells #[.int .i64 k, .string x, .string y] 43))
  have h1z := hb1.size
  clear hb1
  go_wp2_with fail
  refine (mtext46 k x y _ (HT.out.1.below' HB1.out)).mono ?_
  rintro e w2 ⟨rfl, hb2⟩
  have HB2 := Lib.hid (HB1.out.trans (hb2.mono HB1.out.size))
  have HV2 := Lib.hid hb2
  obtain ⟨b0, b1, b2⟩ := box3_cells hb2
  clear hb2
  go_wp2_with fail
  refine (mtext47 k x y (by omega) (by omega) _).mono ?_
  rintro e w3 ⟨rfl, hb3⟩
  have HB3 := Lib.hid (HB2.out.trans (hb3.mono HB2.out.size))
  have HV3 := Lib.hid (HV2.out.trans (hb3.mono HV2.out.size))
  clear hb3 b0 b1 b2
  obtain ⟨b0, b1, b2⟩ := box3_cells HV3.out
  have hbl : w1.heap.size < w3.heap.size := by have := HV3.out.size; simp at this; omega
  have hz := mtextF_size k x y
  have hkk : (matB (k, x, y) != matB (k, x, y)) = false := by simp
  have hss : ((mtextF k x y).toList != (mtextF k x y).toList) = false := by simp
  cases hg : matB (k, x, y)
  case' false =>
    rw [hg] at hkk
    go_wp2_with fail
    have HBW := HB3
    clear HB3 HB2 HB1 HV2 HV3 b0 b1 b2 hbl
    generalize w3 = W at HBW ⊢
  case' true =>
    rw [hg] at hkk
    have HX := Lib.hid (show ReadsM (mtextF k x y).data.toList (k, x, y) from ⟨hg, by rw [mtextF_yes hg]⟩)
    go_wp2_with fail
    refine (read48 (mtextF k x y) (by omega) _ (HT.out.1.below' HB3.out) (HT.out.2.below' HB3.out)).mono ?_
    rintro e w4 ⟨k', x', y', r', rfl, hb4, hr⟩
    obtain ⟨rfl, rfl, rfl, rfl⟩ : k = k' ∧ x = x' ∧ y = y' ∧ r' = true := by
      rcases hr with ⟨rfl, h⟩ | ⟨_, _, h⟩
      · have := readsM_unique HX.out h
        simp only [Prod.mk.injEq] at this
        exact ⟨this.1, this.2.1, this.2.2, rfl⟩
      · exact absurd HX.out (h _)
    have HB4 := Lib.hid ((HB3.out.trans (hb4.mono HB3.out.size)).alloc (HB3.out.trans (hb4.mono HB3.out.size)).size (.cells #[.int .i64 k, .string x, .string y] 43))
    have g0 := (hb4.cell (p := ⟨w1.heap.size, 0, none⟩) hbl).trans b0
    have g1 := (hb4.cell (p := ⟨w1.heap.size, 1, none⟩) hbl).trans b1
    have g2 := (hb4.cell (p := ⟨w1.heap.size, 2, none⟩) hbl).trans b2
    have hlt4 : w1.heap.size < w4.heap.size := by have := hb4.size; omega
    have hbA := (Below.refl w4.heap.size w4).alloc (Nat.le_refl _) (.cells #[.int .i64 k, .string x, .string y] 43)
    have j0 := (hbA.cell (p := ⟨w1.heap.size, 0, none⟩) hlt4).trans g0
    have j1 := (hbA.cell (p := ⟨w1.heap.size, 1, none⟩) hlt4).trans g1
    have j2 := (hbA.cell (p := ⟨w1.heap.size, 2, none⟩) hlt4).trans g2
    clear hbA
    clear hb4 hr b0 b1 b2
    have hN := neq43 k x y
    have hGd := fun a b w => grd43 .neq a b k k x y x y w
    go_wp2_with fail
    have HBW := HB4
    clear HB4 HB3 HB2 HB1 HV2 HV3 g0 g1 g2 j0 j1 j2 hN hGd
    generalize w4.alloc (.cells #[.int .i64 k, .string x, .string y] 43) = W at HBW ⊢
  all_goals
    refine (draw49 _ bo m d (HBr.out.below HBW.out) (by omega)).mono ?_
    rintro e v1 ⟨t, ht, rfl, hb⟩
    have HBt := Lib.hid (HBW.out.trans (hb.mono HBW.out.size))
    clear hb
    go_wp2_with fail
    refine (read48 t (by omega) _ (HT.out.1.below' HBt.out) (HT.out.2.below' HBt.out)).mono ?_
    rintro e v2 ⟨k2, x2, y2, r2, rfl, hb, hr⟩
    have HBu := Lib.hid (HBt.out.trans (hb.mono HBt.out.size))
    have HB2' := Lib.hid (HBu.out.alloc HBu.out.size (.cells #[.int .i64 k2, .string x2, .string y2] 43))
    have HR := Lib.hid hr
    clear hb hr
    go_wp2_with fail
    refine (readm50 t (by omega) _).mono ?_
    rintro e v3 ⟨k3, x3, y3, r3, rfl, hb, hr⟩
    obtain ⟨rfl, rfl, rfl, rfl⟩ := readEndM_same HR.out hr
    obtain ⟨b0, b1, b2⟩ := box3_cells hb
    have hl3 : v2.heap.size < v3.heap.size := by have := hb.size; simp at this; omega
    have HB3' := Lib.hid (HB2'.out.trans (hb.mono HB2'.out.size))
    clear hb hr
    have hbA := (Below.refl v3.heap.size v3).alloc (Nat.le_refl _) (.cells #[.int .i64 k2, .string x2, .string y2] 43)
    have j0 := (hbA.cell (p := ⟨v2.heap.size, 0, none⟩) hl3).trans b0
    have j1 := (hbA.cell (p := ⟨v2.heap.size, 1, none⟩) hl3).trans b1
    have j2 := (hbA.cell (p := ⟨v2.heap.size, 2, none⟩) hl3).trans b2
    obtain ⟨i0, i1, i2⟩ := box3_cells (wr := v3) (k := k2) (x1 := x2) (x2 := y2) (t := 43) (Below.refl _ _)
    have HB4' := Lib.hid (HB3'.out.alloc HB3'.out.size (.cells #[.int .i64 k2, .string x2, .string y2] 43))
    have hl4 : v3.heap.size < (v3.alloc (.cells #[.int .i64 k2, .string x2, .string y2] 43)).heap.size := by simp
    clear hbA b0 b1 b2
    go_wp2_with fail
    generalize v3.alloc (.cells #[.int .i64 k2, .string x2, .string y2] 43) = v4 at HB4' j0 j1 j2 i0 i1 i2 hl4 ⊢
    have hl24 : v2.heap.size < v4.heap.size := by omega
    refine (draw51 _ bo m d (HBr.out.below HB4'.out) (by omega)).mono ?_
    rintro e v5 ⟨mo, mc, ms, hsm, rfl, hmr, hb⟩
    have q0 := (hb.cell (p := ⟨v2.heap.size, 0, none⟩) hl24).trans j0
    have q1 := (hb.cell (p := ⟨v2.heap.size, 1, none⟩) hl24).trans j1
    have q2 := (hb.cell (p := ⟨v2.heap.size, 2, none⟩) hl24).trans j2
    have p0 := (hb.cell (p := ⟨v3.heap.size, 0, none⟩) hl4).trans i0
    have p1 := (hb.cell (p := ⟨v3.heap.size, 1, none⟩) hl4).trans i1
    have p2 := (hb.cell (p := ⟨v3.heap.size, 2, none⟩) hl4).trans i2
    have hl5 : v2.heap.size < v5.heap.size := by have := hb.size; omega
    have HB5 := Lib.hid (HB4'.out.trans (hb.mono HB4'.out.size))
    have HM5 := Lib.hid hmr
    have hfit := hsm.fit (by omega)
    clear hb hmr hsm j0 j1 j2 i0 i1 i2
    have hN := neq43 k2 x2 y2
    have hGd := fun a b w => grd43 .neq a b k2 k2 x2 y2 x2 y2 w
    have hrr : (r2 != r2) = false := by simp
    go_wp2_with fail
    refine (good38 mo mc ms hfit.1 _ (HT.out.1.below' HB5.out) HM5.out).mono ?_
    rintro e v6 ⟨rfl, hb⟩
    have HB6 := Lib.hid (HB5.out.trans (hb.mono HB5.out.size))
    have HM6 := Lib.hid (HM5.out.after hb)
    have s0 := (hb.cell (p := ⟨v2.heap.size, 0, none⟩) hl5).trans q0
    have s1 := (hb.cell (p := ⟨v2.heap.size, 1, none⟩) hl5).trans q1
    have s2 := (hb.cell (p := ⟨v2.heap.size, 2, none⟩) hl5).trans q2
    have hl6 : v2.heap.size < v6.heap.size := by have := hb.size; omega
    clear hb q0 q1 q2 p0 p1 p2
    go_wp2_with fail
    refine (good39 mo mc ms hfit _ HM6.out).mono ?_
    rintro e v7 ⟨rfl, hb⟩
    have HB7 := Lib.hid (HB6.out.trans (hb.mono HB6.out.size))
    have t0 := (hb.cell (p := ⟨v2.heap.size, 0, none⟩) hl6).trans s0
    have t1 := (hb.cell (p := ⟨v2.heap.size, 1, none⟩) hl6).trans s1
    have t2 := (hb.cell (p := ⟨v2.heap.size, 2, none⟩) hl6).trans s2
    clear hb s0 s1 s2 hN hGd
    have hgg : (goodMs ms != goodMs ms) = false := by simp
    generalize goodMs ms = gm at hgg ⊢
    cases r2 with
    | false =>
      go_wp2
      go_ret
      exact ⟨rfl, HB7.out⟩
    | true =>
      have hR : ReadsM t.data.toList (k2, x2, y2) := by
        rcases HR.out with ⟨_, h⟩ | ⟨h, _⟩
        · exact h
        · cases h
      have HM := Lib.hid hR.1
      have HE := Lib.hid (show mtextF k2 x2 y2 = t by rw [mtextF_yes hR.1]; exact data_inj hR.2)
      clear hR
      go_wp2_with fail
      refine (mtext46 k2 x2 y2 _ (HT.out.1.below' HB7.out)).mono ?_
      rw [HE.out, HM.out]
      rintro e v8 ⟨rfl, hb⟩
      have HB8 := Lib.hid (HB7.out.trans (hb.mono HB7.out.size))
      clear hb
      have htt : (t.toList == t.toList) = true := by simp
      go_wp2
      go_ret
      exact ⟨rfl, HB8.out⟩
end Go.Proofs.YtpbcgfgjdimpmaaDoor
