/- Contract of labels without some names in the model, over this seat's translation. -/
import Derived.Test.YtpbcgfgjdimpmaaDoorLists
import Derived.Laws.StructEq
import Derived.Test.YtpbcgfgjdimpmaaDoorJr
import Derived.Test.YtpbcgfgjdimpmaaDoorWk
import Derived.Test.YtpbcgfgjdimpmaaDoorSpoil
import Derived.Test.YtpbcgfgjdimpmaaDoorJm
import Derived.Test.YtpbcgfgjdimpmaaDoorWithout
namespace Go.Proofs.YtpbcgfgjdimpmaaDoor
open Go.RowKit Go.Deep

theorem neq82 (a b : ByteArray) (w : World) : (binOp .neq 82 (.agg #[.string a, .string b]) (.agg #[.string a, .string b])).run Tryd.prog w = .ok (.bool false) w := by
  have u9 := Tryd.underlying9
  have a9 := Tryd.isAgg9
  have z9 := Tryd.sizeOf9
  have hS : Tryd.prog.underlying 82 = some (.struct (Tryd.prog.fieldsOf 82)) := by kernel_rfl
  have hp : Tryd.prog.stoodInHeld 82 = false := by kernel_rfl
  rw [run_neq_struct, show (10000 : Nat) = 9999 + 1 from rfl, run_equalIn_struct w 9999 82 _ _ hS hp]
  simp only [Program.fieldsOf, Tryd.underlying82]
  go_simp

set_option maxHeartbeats 2000000 in
theorem same21 (ao bo : Option Addr) (c d : Nat) (a : List Lab) (hn : a.length ≤ 1048576) (w : World) (h : LRow w w.heap.size ao a) (h2 : LRow w w.heap.size bo a) :
    Calls Tryd.prog 21 #[.slice ao a.length c, .slice bo a.length d] w fun e w' => e = .returned (.bool true) ∧ Below w.heap.size w w' := by
  have HA := Lib.hid h
  have HB := Lib.hid h2
  clear h h2
  go_enter Tryd.func21, Tryd.ntmps21
  go_wp2
  go_loopw [13] (fun i wr => ∃ k : Nat, k ≤ a.length ∧ i = .int .i64 k ∧ Hid (Below w.heap.size w wr)) (fun i _ => a.length - (intOf i).toNat)
  case atStart => exact ⟨0, Nat.zero_le _, rfl, Below.refl _ _⟩
  case round =>
    obtain ⟨k, hk, rfl, hb⟩ := hrel
    by_cases hlt : k < a.length
    · obtain ⟨g, off, hao, hbl, hc⟩ := HA.out (by omega)
      obtain ⟨g', off', hao', hbl', hc'⟩ := HB.out (by omega)
      subst hao hao'
      have c0 := (hb.out.cell (p := ⟨g, off + k * 2, none⟩) hbl).trans (hc k hlt).1
      have c1 := (hb.out.cell (p := ⟨g, off + k * 2 + 1, none⟩) hbl).trans (hc k hlt).2
      have d0 := (hb.out.cell (p := ⟨g', off' + k * 2, none⟩) hbl').trans (hc' k hlt).1
      have d1 := (hb.out.cell (p := ⟨g', off' + k * 2 + 1, none⟩) hbl').trans (hc' k hlt).2
      clear hc hc'
      generalize a[k] = x at c0 c1 d0 d1
      obtain ⟨x1, x2⟩ := x
      dsimp only at c0 c1 d0 d1
      have hq := fun w => neq82 x1 x2 w
      go_wp2_with fail
      go_quiet (fail)
      go_wp2_with fail
      go_roundw
      case rel => exact ⟨k + 1, by omega, by go_num, below_drewN hb.out _⟩
      case measure => simp [intOf]; omega
    · obtain rfl : k = a.length := by omega
      go_wp2
      go_ret
      exact ⟨rfl, hb.out⟩
end Go.Proofs.YtpbcgfgjdimpmaaDoor
namespace Go.Proofs.YtpbcgfgjdimpmaaDoor
open Go.RowKit Go.Deep

theorem own_apart {w1 w2 : World} {b1 b2 : Nat} {e1 e2 : TypeId} {s1 s2 n1 n2 : Nat} {v1 v2 : Value} {x1 x2 : List Value} (h1 : w1.ownsRow b1 e1 s1 v1 n1 x1) (h2 : w2.ownsRow b2 e2 s2 v2 n2 x2) (h : w1.heap.size ≤ b2) :
    (v1.ownBlock = none ∨ v1.ownBlock ≠ v2.ownBlock) ∧ (v2.ownBlock = none ∨ v2.ownBlock ≠ v1.ownBlock) := by
  have hne : ∀ k, v1.ownBlock = some k → v2.ownBlock ≠ some k := by
    intro k hk hk2
    have a := (h1.lt k hk).2
    have b := (h2.lt k hk2).1
    omega
  constructor
  · cases h1' : v1.ownBlock with
    | none => exact .inl rfl
    | some k => exact .inr (fun e => hne k h1' e.symm)
  · cases h2' : v2.ownBlock with
    | none => exact .inl rfl
    | some k => exact .inr (fun e => hne k e.symm h2')

theorem below_marked {w w1 w2 : World} {base : Nat} {e : TypeId} {size n : Nat} {v : Value} {xs : List Value} (hb : Below w.heap.size w w1) (ho : w1.ownsRow base e size v n xs) (hg : w1.grownBy w2 v.ownBlock) (hbase : w.heap.size ≤ base) : Below w.heap.size w w2 :=
  hb.grown hg hb.size (fun k hk => Nat.le_trans hbase (ho.lt k hk).1)
theorem good_fit {l : List Lab} (h : goodB l = true) : Fit l := ⟨by have := good_len h; omega, fun x hx => by
  obtain ⟨k, hk, rfl⟩ := List.getElem_of_mem hx
  have := good_at h hk
  omega⟩
theorem readEnd_fit {D : List UInt8} {r : Bool} {l : List Lab} (h1 : r = true → Reads D l) (h0 : r = false → l = [] ∧ ∀ o, ¬ Reads D o) : Fit l := by
  cases r
  · rw [(h0 rfl).1]; exact ⟨by simp, by simp⟩
  · exact good_fit (h1 rfl).1
theorem readEnd_same {D : List UInt8} {r r' : Bool} {l l' : List Lab} (h1 : r = true → Reads D l) (h0 : r = false → l = [] ∧ ∀ o, ¬ Reads D o) (h1' : r' = true → Reads D l') (h0' : r' = false → l' = [] ∧ ∀ o, ¬ Reads D o) : r = r' ∧ l = l' := by
  cases r <;> cases r'
  · exact ⟨rfl, by rw [(h0 rfl).1, (h0' rfl).1]⟩
  · exact absurd (h1' rfl) ((h0 rfl).2 _)
  · exact absurd (h1 rfl) ((h0' rfl).2 _)
  · exact ⟨rfl, reads_unique (h1 rfl) (h1' rfl)⟩

set_option maxHeartbeats 8000000 in
set_option maxRecDepth 100000 in
theorem walk_fnExactReadLabels (w : World) (s : ByteArray) (hT : Tabs w ∧ MaxC w) (hs : s.size ≤ maxLen) :
    Calls Tryd.prog 6 #[.string s] w fun e w' => e = .returned (.bool true) ∧ Below w.heap.size w w' := by
  unfold maxLen at hs
  have HT := Lib.hid hT
  clear hT
  by_cases hbig : 1048576 < s.size
  · go_enter Tryd.func6, Tryd.ntmps6
    go_wp2
    go_ret
    exact ⟨rfl, Below.refl _ _⟩
  go_enter Tryd.func6, Tryd.ntmps6
  go_wp2_with fail
  refine (read36 s (by omega) _).mono ?_
  rintro e w3 ⟨v3, r3, l3, rfl, ho3, hb3, y3, n3⟩
  obtain ⟨a3, c3, rfl⟩ := own_slice ho3
  have HW := Lib.hid ho3
  have HB := Lib.hid hb3
  have HY := Lib.hid y3
  have HN := Lib.hid n3
  clear ho3 hb3 y3 n3
  go_wp2_with fail
  refine (read20 s (by omega) _ (HT.out.1.below' HB.out) (HT.out.2.below' HB.out)).mono ?_
  rintro e w5 ⟨v5, r5, l5, rfl, ho5, hb5, y5, n5⟩
  obtain ⟨rfl, rfl⟩ := readEnd_same HY.out HN.out y5 n5
  have hFR := readEnd_fit y5 n5
  have hlr := hFR.1
  obtain ⟨a5, c5, rfl⟩ := own_slice ho5
  have z5 : w.heap.size ≤ w3.heap.size := HB.out.size
  have AWG := Lib.hid (own_apart HW.out ho5 (Nat.le_refl _))
  replace HB := Lib.hid (HB.out.trans (hb5.mono HB.out.size))
  replace HW := Lib.hid (own_below HW.out hb5)
  have HG := Lib.hid ho5
  clear ho5 hb5 y5 n5
  have hgg : (r3 != r3) = false := by cases r3 <;> rfl
  go_wp2_with fail
  refine (eq44 a5 a3 c5 c3 l3 hFR w5 (LRow.of_own HG.out).2 (LRow.of_own HW.out).2).mono ?_
  rintro e w6 ⟨rfl, hb6⟩
  replace HB := Lib.hid (HB.out.trans (hb6.mono HB.out.size))
  replace HW := Lib.hid (own_below HW.out hb6)
  replace HG := Lib.hid (own_below HG.out hb6)
  clear hb6
  go_wp2_with fail
  refine (mark45 _ l3.length 1 _ _ hlr (by omega) w6 HG.out).mono ?_
  rintro e w11 ⟨rfl, ho11, hg11⟩
  replace HB := Lib.hid (below_marked HB.out HG.out hg11 z5)
  replace HW := Lib.hid (HW.out.kept hg11 AWG.out.1)
  have HM := Lib.hid ho11
  clear ho11 hg11 HG
  go_wp2_with fail
  refine (held46 l3.length 1 a5 c5 hlr (by omega) w11 (LRow.of_own HM.out).2).mono ?_
  rintro e w12 ⟨rfl, hb12⟩
  replace HB := Lib.hid (HB.out.trans (hb12.mono HB.out.size))
  replace HW := Lib.hid (own_below HW.out hb12)
  replace HM := Lib.hid (own_below HM.out hb12)
  clear hb12
  go_wp2_with fail
  refine (read20 s (by omega) _ (HT.out.1.below' HB.out) (HT.out.2.below' HB.out)).mono ?_
  rintro e w14 ⟨v14, r14, l14, rfl, ho14, hb14, y14, n14⟩
  obtain ⟨rfl, rfl⟩ := readEnd_same HY.out HN.out y14 n14
  obtain ⟨a14, c14, rfl⟩ := own_slice ho14
  replace HB := Lib.hid (HB.out.trans (hb14.mono HB.out.size))
  replace HW := Lib.hid (own_below HW.out hb14)
  replace HM := Lib.hid (own_below HM.out hb14)
  have HL14 := Lib.hid (LRow.of_own ho14).2
  clear ho14 hb14 y14 n14
  go_wp2_with fail
  refine (eq44 a14 a3 c14 c3 l3 hFR w14 HL14.out (LRow.of_own HW.out).2).mono ?_
  rintro e w15 ⟨rfl, hb15⟩
  replace HB := Lib.hid (HB.out.trans (hb15.mono HB.out.size))
  replace HM := Lib.hid (own_below HM.out hb15)
  clear hb15 HL14 HW
  go_wp2_with fail
  refine (held46 l3.length 1 a5 c5 hlr (by omega) w15 (LRow.of_own HM.out).2).mono ?_
  rintro e w16 ⟨rfl, hb16⟩
  replace HB := Lib.hid (HB.out.trans (hb16.mono HB.out.size))
  clear hb16
  go_wp2
  go_ret
  exact ⟨rfl, HB.out⟩
end Go.Proofs.YtpbcgfgjdimpmaaDoor
namespace Go.Proofs.YtpbcgfgjdimpmaaDoor
open Go.RowKit Go.Deep

theorem ret_bool' {a b : Bool} (h : a = b) : Ending.returned (.bool b) = .returned (.bool a) := by rw [h]
theorem big14 (w : World) (ao bo : Option Addr) (n m c d : Nat) : Calls Tryd.prog 14 #[.slice ao n c, .slice bo m d] w fun e w' => e = .returned (.bool (decide (1048576 < n + m))) ∧ w = w' := by
  by_cases h1 : 1048576 < n
  · go_enter Tryd.func14, Tryd.ntmps14
    go_wp2
    go_ret
    exact ⟨ret_bool' (by simp; omega), rfl⟩
  · go_enter Tryd.func14, Tryd.ntmps14
    go_wp2
    go_ret
    exact ⟨ret_bool' (by rw [Bool.eq_iff_iff]; simp; omega), rfl⟩


set_option maxRecDepth 100000 in
theorem neq43 (k : Int) (x y : ByteArray) (w : World) : (binOp .neq 43 (.agg #[.int .i64 k, .string x, .string y]) (.agg #[.int .i64 k, .string x, .string y])).run Tryd.prog w = .ok (.bool false) w := by
  have u3 := Tryd.underlying3
  have a3 := Tryd.isAgg3
  have z3 := Tryd.sizeOf3
  have u9 := Tryd.underlying9
  have a9 := Tryd.isAgg9
  have z9 := Tryd.sizeOf9
  have hS : Tryd.prog.underlying 43 = some (.struct (Tryd.prog.fieldsOf 43)) := by kernel_rfl
  have hp : Tryd.prog.stoodInHeld 43 = false := by kernel_rfl
  rw [run_neq_struct, show (10000 : Nat) = 9999 + 1 from rfl, run_equalIn_agg w 9999 43 _ _ hS hp]
  simp only [Program.fieldsOf, Tryd.underlying43]
  go_simp
theorem grd43 (op : BinOp) (a b : Operand) (k k' : Int) (x y x' y' : ByteArray) (w : World) : (eqGuard op 43 a b (.agg #[.int .i64 k, .string x, .string y]) (.agg #[.int .i64 k', .string x', .string y'])).run Tryd.prog w = .ok () w :=
  run_eqGuard_agg w op 43 a b _ _ (by kernel_rfl)
set_option maxHeartbeats 20000000 in
set_option maxRecDepth 100000 in
theorem walk_fnMatcherTexts (w : World) (ao : Option Addr) (c n : Nat) (bo : Option Addr) (d m : Nat) (hT : Tabs w ∧ MaxC w) (ha : BRow w w.heap.size ao n) (hb : BRow w w.heap.size bo m) :
    Calls Tryd.prog 5 #[.slice ao n c, .slice bo m d] w fun e w' => e = .returned (.bool true) ∧ Below w.heap.size w w' := by
  have HT := Lib.hid hT
  have HA := Lib.hid ha
  have HBr := Lib.hid hb
  clear hT ha hb
  go_enter Tryd.func5, Tryd.ntmps5
  go_wp2_with fail
  refine (big14 w ao bo n m c d).mono ?_
  rintro e w0 ⟨rfl, rfl⟩
  by_cases hbig : 1048576 < n + m
  · have hq : decide (1048576 < n + m) = true := by simpa using hbig
    rw [hq]
    go_wp2
    go_ret
    exact ⟨rfl, Below.refl _ _⟩
  have hq : decide (1048576 < n + m) = false := by simpa using hbig
  rw [hq]
  go_wp2_with fail
  refine (draw45 w ao n c HA.out (by omega)).mono ?_
  rintro e w1 ⟨k, x, y, hx, hy, rfl, hb1⟩
  have HB1 := Lib.hid (hb1.alloc hb1.size (.cells #[.int .i64 k, .string x, .string y] 43))
  have h1z := hb1.size
  clear hb1
  go_wp2_with fail
  refine (mtext46 k x y _ (HT.out.1.below' HB1.out)).mono ?_
  rintro e w2 ⟨rfl, hb2⟩
  have HB2 := Lib.hid (HB1.out.trans (hb2.mono HB1.out.size))
  have HV2 := Lib.hid hb2
  obtain ⟨b0, b1, b2⟩ := box3_cells hb2
  clear hb2
  go_wp2_with fail
  refine (mtext47 k x y (by omega) (by omega) _).mono ?_
  rintro e w3 ⟨rfl, hb3⟩
  have HB3 := Lib.hid (HB2.out.trans (hb3.mono HB2.out.size))
  have HV3 := Lib.hid (HV2.out.trans (hb3.mono HV2.out.size))
  clear hb3 b0 b1 b2
  obtain ⟨b0, b1, b2⟩ := box3_cells HV3.out
  have hbl : w1.heap.size < w3.heap.size := by have := HV3.out.size; simp at this; omega
  have hz := mtextF_size k x y
  have hkk : (matB (k, x, y) != matB (k, x, y)) = false := by simp
  have hss : ((mtextF k x y).toList != (mtextF k x y).toList) = false := by simp
  cases hg : matB (k, x, y)
  case' false =>
    rw [hg] at hkk
    go_wp2_with fail
    have HBW := HB3
    clear HB3 HB2 HB1 HV2 HV3 b0 b1 b2 hbl
    generalize w3 = W at HBW ⊢
  case' true =>
    rw [hg] at hkk
    have HX := Lib.hid (show ReadsM (mtextF k x y).data.toList (k, x, y) from ⟨hg, by rw [mtextF_yes hg]⟩)
    go_wp2_with fail
    refine (read48 (mtextF k x y) (by omega) _ (HT.out.1.below' HB3.out) (HT.out.2.below' HB3.out)).mono ?_
    rintro e w4 ⟨k', x', y', r', rfl, hb4, hr⟩
    obtain ⟨rfl, rfl, rfl, rfl⟩ : k = k' ∧ x = x' ∧ y = y' ∧ r' = true := by
      rcases hr with ⟨rfl, h⟩ | ⟨_, _, h⟩
      · have := readsM_unique HX.out h
        simp only [Prod.mk.injEq] at this
        exact ⟨this.1, this.2.1, this.2.2, rfl⟩
      · exact absurd HX.out (h _)
    have HB4 := Lib.hid ((HB3.out.trans (hb4.mono HB3.out.size)).alloc (HB3.out.trans (hb4.mono HB3.out.size)).size (.cells #[.int .i64 k, .string x, .string y] 43))
    have g0 := (hb4.cell (p := ⟨w1.heap.size, 0, none⟩) hbl).trans b0
    have g1 := (hb4.cell (p := ⟨w1.heap.size, 1, none⟩) hbl).trans b1
    have g2 := (hb4.cell (p := ⟨w1.heap.size, 2, none⟩) hbl).trans b2
    have hlt4 : w1.heap.size < w4.heap.size := by have := hb4.size; omega
    have hbA := (Below.refl w4.heap.size w4).alloc (Nat.le_refl _) (.cells #[.int .i64 k, .string x, .string y] 43)
    have j0 := (hbA.cell (p := ⟨w1.heap.size, 0, none⟩) hlt4).trans g0
    have j1 := (hbA.cell (p := ⟨w1.heap.size, 1, none⟩) hlt4).trans g1
    have j2 := (hbA.cell (p := ⟨w1.heap.size, 2, none⟩) hlt4).trans g2
    clear hbA
    clear hb4 hr b0 b1 b2
    have hN := neq43 k x y
    have hGd := fun a b w => grd43 .neq a b k k x y x y w
    go_wp2_with fail
    have HBW := HB4
    clear HB4 HB3 HB2 HB1 HV2 HV3 g0 g1 g2 j0 j1 j2 hN hGd
    generalize w4.alloc (.cells #[.int .i64 k, .string x, .string y] 43) = W at HBW ⊢
  all_goals
    refine (draw49 _ bo m d (HBr.out.below HBW.out) (by omega)).mono ?_
    rintro e v1 ⟨t, ht, rfl, hb⟩
    have HBt := Lib.hid (HBW.out.trans (hb.mono HBW.out.size))
    clear hb
    go_wp2_with fail
    refine (read48 t (by omega) _ (HT.out.1.below' HBt.out) (HT.out.2.below' HBt.out)).mono ?_
    rintro e v2 ⟨k2, x2, y2, r2, rfl, hb, hr⟩
    have HBu := Lib.hid (HBt.out.trans (hb.mono HBt.out.size))
    have HB2' := Lib.hid (HBu.out.alloc HBu.out.size (.cells #[.int .i64 k2, .string x2, .string y2] 43))
    have HR := Lib.hid hr
    clear hb hr
    go_wp2_with fail
    refine (readm50 t (by omega) _).mono ?_
    rintro e v3 ⟨k3, x3, y3, r3, rfl, hb, hr⟩
    obtain ⟨rfl, rfl, rfl, rfl⟩ := readEndM_same HR.out hr
    obtain ⟨b0, b1, b2⟩ := box3_cells hb
    have hl3 : v2.heap.size < v3.heap.size := by have := hb.size; simp at this; omega
    have HB3' := Lib.hid (HB2'.out.trans (hb.mono HB2'.out.size))
    clear hb hr
    have hbA := (Below.refl v3.heap.size v3).alloc (Nat.le_refl _) (.cells #[.int .i64 k2, .string x2, .string y2] 43)
    have j0 := (hbA.cell (p := ⟨v2.heap.size, 0, none⟩) hl3).trans b0
    have j1 := (hbA.cell (p := ⟨v2.heap.size, 1, none⟩) hl3).trans b1
    have j2 := (hbA.cell (p := ⟨v2.heap.size, 2, none⟩) hl3).trans b2
    obtain ⟨i0, i1, i2⟩ := box3_cells (wr := v3) (k := k2) (x1 := x2) (x2 := y2) (t := 43) (Below.refl _ _)
    have HB4' := Lib.hid (HB3'.out.alloc HB3'.out.size (.cells #[.int .i64 k2, .string x2, .string y2] 43))
    have hl4 : v3.heap.size < (v3.alloc (.cells #[.int .i64 k2, .string x2, .string y2] 43)).heap.size := by simp
    clear hbA b0 b1 b2
    go_wp2_with fail
    generalize v3.alloc (.cells #[.int .i64 k2, .string x2, .string y2] 43) = v4 at HB4' j0 j1 j2 i0 i1 i2 hl4 ⊢
    have hl24 : v2.heap.size < v4.heap.size := by omega
    refine (draw51 _ bo m d (HBr.out.below HB4'.out) (by omega)).mono ?_
    rintro e v5 ⟨mo, mc, ms, hsm, rfl, hmr, hb⟩
    have q0 := (hb.cell (p := ⟨v2.heap.size, 0, none⟩) hl24).trans j0
    have q1 := (hb.cell (p := ⟨v2.heap.size, 1, none⟩) hl24).trans j1
    have q2 := (hb.cell (p := ⟨v2.heap.size, 2, none⟩) hl24).trans j2
    have p0 := (hb.cell (p := ⟨v3.heap.size, 0, none⟩) hl4).trans i0
    have p1 := (hb.cell (p := ⟨v3.heap.size, 1, none⟩) hl4).trans i1
    have p2 := (hb.cell (p := ⟨v3.heap.size, 2, none⟩) hl4).trans i2
    have hl5 : v2.heap.size < v5.heap.size := by have := hb.size; omega
    have HB5 := Lib.hid (HB4'.out.trans (hb.mono HB4'.out.size))
    have HM5 := Lib.hid hmr
    have hfit := hsm.fit (by omega)
    clear hb hmr hsm j0 j1 j2 i0 i1 i2
    have hN := neq43 k2 x2 y2
    have hGd := fun a b w => grd43 .neq a b k2 k2 x2 y2 x2 y2 w
    have hrr : (r2 != r2) = false := by simp
    go_wp2_with fail
    refine (good38 mo mc ms hfit.1 _ (HT.out.1.below' HB5.out) HM5.out).mono ?_
    rintro e v6 ⟨rfl, hb⟩
    have HB6 := Lib.hid (HB5.out.trans (hb.mono HB5.out.size))
    have HM6 := Lib.hid (HM5.out.after hb)
    have s0 := (hb.cell (p := ⟨v2.heap.size, 0, none⟩) hl5).trans q0
    have s1 := (hb.cell (p := ⟨v2.heap.size, 1, none⟩) hl5).trans q1
    have s2 := (hb.cell (p := ⟨v2.heap.size, 2, none⟩) hl5).trans q2
    have hl6 : v2.heap.size < v6.heap.size := by have := hb.size; omega
    clear hb q0 q1 q2 p0 p1 p2
    go_wp2_with fail
    refine (good39 mo mc ms hfit _ HM6.out).mono ?_
    rintro e v7 ⟨rfl, hb⟩
    have HB7 := Lib.hid (HB6.out.trans (hb.mono HB6.out.size))
    have t0 := (hb.cell (p := ⟨v2.heap.size, 0, none⟩) hl6).trans s0
    have t1 := (hb.cell (p := ⟨v2.heap.size, 1, none⟩) hl6).trans s1
    have t2 := (hb.cell (p := ⟨v2.heap.size, 2, none⟩) hl6).trans s2
    clear hb s0 s1 s2 hN hGd
    have hgg : (goodMs ms != goodMs ms) = false := by simp
    generalize goodMs ms = gm at hgg ⊢
    cases r2 with
    | false =>
      go_wp2
      go_ret
      exact ⟨rfl, HB7.out⟩
    | true =>
      have hR : ReadsM t.data.toList (k2, x2, y2) := by
        rcases HR.out with ⟨_, h⟩ | ⟨h, _⟩
        · exact h
        · cases h
      have HM := Lib.hid hR.1
      have HE := Lib.hid (show mtextF k2 x2 y2 = t by rw [mtextF_yes hR.1]; exact data_inj hR.2)
      clear hR
      go_wp2_with fail
      refine (mtext46 k2 x2 y2 _ (HT.out.1.below' HB7.out)).mono ?_
      rw [HE.out, HM.out]
      rintro e v8 ⟨rfl, hb⟩
      have HB8 := Lib.hid (HB7.out.trans (hb.mono HB7.out.size))
      clear hb
      have htt : (t.toList == t.toList) = true := by simp
      go_wp2
      go_ret
      exact ⟨rfl, HB8.out⟩
end Go.Proofs.YtpbcgfgjdimpmaaDoor
namespace Go.Proofs.YtpbcgfgjdimpmaaDoor
open Go.RowKit Go.Deep Go.WideShapes

theorem hasT_step' {l : List ByteArray} {n : ByteArray} {k : Nat} (hk : k < l.length) : hasT (l.take (k + 1)) n = (hasT (l.take k) n || (l[k].toList == n.toList)) := by
  rw [hasT_step hk, BEq.comm (a := n.toList)]

set_option maxHeartbeats 4000000 in
set_option maxRecDepth 100000 in
theorem without41 (ao bo : Option Addr) (c d : Nat) (l : List Lab) (names : List ByteArray) (hF : Fit l) (hm : names.length ≤ 1048576) (w : World) (h : LRow w w.heap.size ao l) (h2 : TRow w w.heap.size bo names) :
    Calls Tryd.prog 29 #[.slice ao l.length c, .slice bo names.length d] w (Kept l names w) := by
  have H := Lib.hid h
  have H2 := Lib.hid h2
  have hn := hF.1
  clear h h2
  obtain ⟨i0, hi0, hz0, hz1, hz2⟩ := info_parts Tryd.info82
  go_enter Tryd.func29, Tryd.ntmps29
  go_wp2_with fail
  refine (good68 ao c l hF _ H.out).mono ?_
  rintro e w1 ⟨rfl, hb⟩
  have HB := Lib.hid hb
  clear hb
  by_cases hg : goodB l = true
  case neg =>
    have hg : goodB l = false := by simpa using hg
    have HK := Lib.hid (kept_no (l := l) (names := names) (by simp [okW, hg]) HB.out)
    go_wp2
    go_ret2
    exact HK.out
  by_cases h20 : names.length ≤ 20
  case neg =>
    have HK := Lib.hid (kept_no (l := l) (names := names) (by simp [okW, h20]) HB.out)
    have hd : decide (20 < (names.length : Int)) = true := by simp; omega
    go_wp2
    go_ret2
    exact HK.out
  have hd : decide (20 < (names.length : Int)) = false := by simp; omega
  have HOK := Lib.hid (show okW l names = true by simp [okW, hg, h20])
  go_wp2
  clear hg
  go_loopw [6, 22] (fun v i wr => ∃ k : Nat, k ≤ l.length ∧ i = .int .i64 k ∧ Hid (wr.ownsRow w.heap.size 82 2 v (without (l.take k) names).length (cellsOf (without (l.take k) names))) ∧ Hid (Below w.heap.size w wr)) (fun _ i _ => l.length - (intOf i).toNat)
  case atStart => exact ⟨0, Nat.zero_le _, rfl, World.ownsRow_nil _ _ _ _, HB⟩
  case round =>
    obtain ⟨k, hk, rfl, hO, hb⟩ := hrel
    by_cases hlt : k < l.length
    · obtain ⟨b, off, hao, hbl, hc⟩ := H.out (by omega)
      subst hao
      have c0 := (hb.out.cell (p := ⟨b, off + k * 2, none⟩) hbl).trans (hc k hlt).1
      have c1 := (hb.out.cell (p := ⟨b, off + k * 2 + 1, none⟩) hbl).trans (hc k hlt).2
      have HB1 := Lib.hid (hb.out.alloc (hb.out.size) (.cells #[.string l[k].1, .string l[k].2] 82))
      have HO1 := Lib.hid (hO.out.alloc (.cells #[.string l[k].1, .string l[k].2] 82))
      have HKe := Lib.hid (fun h => without_keep (names := names) hlt h)
      have HDr := Lib.hid (fun h => without_drop (names := names) hlt h)
      have hle : (without (l.take k) names).length ≤ 1048576 := Nat.le_trans (without_le _ _) (by simp; omega)
      clear hc
      generalize l[k] = x at c0 c1 HB1 HO1 HKe HDr
      obtain ⟨x1, x2⟩ := x
      go_wp2_with fail
      obtain ⟨k3, k4⟩ := box_cells (wr := wr) (x1 := x1) (x2 := x2) (t := 82) (Below.refl _ _)
      generalize hw2 : wr.alloc (.cells #[.string x1, .string x2] 82) = w2 at HB1 HO1 k3 k4 ⊢
      clear hw2
      go_loop [9, 28] (fun q i => ∃ j : Nat, j ≤ names.length ∧ i = .int .i64 j ∧ q = .bool (hasT (names.take j) x1)) (fun _ i => names.length - (intOf i).toNat)
      case atStart => exact ⟨0, Nat.zero_le _, rfl, rfl⟩
      case round =>
        obtain ⟨j, hj, rfl, rfl⟩ := hrel
        by_cases hlj : j < names.length
        · obtain ⟨b', off', hbo, hbl', hc'⟩ := H2.out (by omega)
          subst hbo
          have d0 := (HB1.out.cell (p := ⟨b', off' + j, none⟩) hbl').trans (hc' j hlj)
          have HS := Lib.hid (hasT_step' (n := x1) hlj)
          clear hc'
          generalize names[j] = y at d0 HS
          by_cases hq : hasT (names.take j) x1 = true
          · have HN : Hid (hasT (names.take (j + 1)) x1 = true) := by rw [HS.out, hq]; rfl
            go_wp2
            go_round
            case rel => exact ⟨j + 1, by omega, by go_num, by rw [HN.out]⟩
            case measure => simp [intOf]; omega
          · have hq : hasT (names.take j) x1 = false := by simpa using hq
            have HN : Hid (hasT (names.take (j + 1)) x1 = (y.toList == x1.toList)) := by rw [HS.out, hq]; rfl
            go_wp2
            go_round
            case rel => exact ⟨j + 1, by omega, by go_num, by rw [HN.out]⟩
            case measure => simp [intOf]; omega
        · obtain rfl : j = names.length := by omega
          rw [List.take_length]
          by_cases hh : hasT names x1 = true
          · have HE := Lib.hid (HDr.out hh)
            go_wp2
            go_roundw
            case rel => exact ⟨k + 1, by omega, by go_num, by rw [HE.out]; exact HO1.out, HB1⟩
            case measure => simp [intOf]; omega
          · have hh : hasT names x1 = false := by simpa using hh
            have HE := Lib.hid (HKe.out hh)
            go_wp2_with (at_builtin; refine wpList_append_own _ rfl (.tmp 42) (.tmp 44) 24 rfl w.heap.size 82 i0 _ 2 32 Tryd.underlying24 hi0 hz0 hz1 hz2 rfl (by decide) _ _ _ rfl (HO1.out.alloc _) ⟨w2.heap.size, 0, none⟩ 1 1 [.string x1, .string x2] rfl rfl new_pair pair_one ?c3 ?c4 ?c5 ?_)
            case c3 => unfold maxLen; omega
            case c4 => omega
            case c5 => have := HB1.out.size; simp; omega
            intro v' w3 hown' hgrow _
            have HR := Lib.hid (kept_append HB1.out HO1.out hown' hgrow)
            clear hown' hgrow
            go_wp2
            go_roundw
            case rel => exact ⟨k + 1, by omega, by go_num, by rw [HE.out]; exact HR.out.1, HR.out.2⟩
            case measure => simp [intOf]; omega
    · obtain rfl : k = l.length := by omega
      have HK := Lib.hid (fun v (h : wr.ownsRow w.heap.size 82 2 v (without l names).length (cellsOf (without l names))) => kept_yes HOK.out h hb.out)
      rw [List.take_length] at hO
      go_wp2
      go_ret2
      exact HK.out _ hO.out
end Go.Proofs.YtpbcgfgjdimpmaaDoor
