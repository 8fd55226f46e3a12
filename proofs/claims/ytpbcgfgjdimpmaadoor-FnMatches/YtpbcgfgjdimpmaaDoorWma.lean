/- The walk of the law FnMatches: at every two lists of bytes, in a world that holds the program's tables, its call returns true and writes nothing that was there. -/
import Derived.Test.YtpbcgfgjdimpmaaDoorJm
import Derived.Test.YtpbcgfgjdimpmaaDoorWmt
import Derived.Deep.CutRange
namespace Go.Proofs.YtpbcgfgjdimpmaaDoor
open Go.RowKit Go.Deep

theorem okW_one {l : List Lab} (h : goodB l = true) (x : ByteArray) : okW l [x] = true := by simp [okW, h]
theorem resW_one {l : List Lab} (h : goodB l = true) (x : ByteArray) : resW l [x] = without l [x] := by simp [resW, okW_one h]
theorem trow_one (w : World) (x : ByteArray) : TRow (w.alloc (.cells #[.string x] 9)) (w.alloc (.cells #[.string x] 9)).heap.size (some ⟨w.heap.size, 0, none⟩) [x] := fun _ =>
  ⟨w.heap.size, 0, rfl, by simp, fun k hk => by
    obtain rfl : k = 0 := by simpa using hk
    simp⟩
theorem fit_without {l : List Lab} (h : Fit l) (names : List ByteArray) : Fit (without l names) := ⟨Nat.le_trans (without_le l names) h.1, fun x hx => h.2 x (List.mem_filter.1 hx).1⟩
set_option maxHeartbeats 40000000 in
set_option maxRecDepth 100000 in
theorem walk_fnMatches (w : World) (ao : Option Addr) (c n : Nat) (bo : Option Addr) (d m : Nat) (hT : Tabs w ∧ MaxC w) (ha : BRow w w.heap.size ao n) (hb : BRow w w.heap.size bo m) :
    Calls Tryd.prog 4 #[.slice ao n c, .slice bo m d] w fun e w' => e = .returned (.bool true) ∧ Below w.heap.size w w' := by
  have HT := Lib.hid hT
  have HA := Lib.hid ha
  have HBr := Lib.hid hb
  clear hT ha hb
  go_enter Tryd.func4, Tryd.ntmps4
  go_wp2_with fail
  refine (big14 w ao bo n m c d).mono ?_
  rintro e w0 ⟨rfl, rfl⟩
  by_cases hbig : 1048576 < n + m
  · have hq : decide (1048576 < n + m) = true := by simpa using hbig
    rw [hq]
    go_wp2
    go_ret
    exact ⟨rfl, Below.refl _ _⟩
  have hq : decide (1048576 < n + m) = false := by simpa using hbig
  rw [hq]
  go_wp2_with fail
  refine (draw31 w ao n c HA.out (by omega)).mono ?_
  rintro e w1 ⟨lo, lc, l, k, x, y, hsl, hx, hy, rfl, hlr, hb1⟩
  have hF := hsl.fit (by omega)
  have HB1 := Lib.hid (hb1.alloc hb1.size (.cells #[.int .i64 k, .string x, .string y] 43))
  have HL1 := Lib.hid (hlr.after ((Below.refl w1.heap.size w1).alloc (Nat.le_refl _) (.cells #[.int .i64 k, .string x, .string y] 43)))
  have h1z := hb1.size
  clear hb1 hlr hsl
  go_wp2_with fail
  refine (matches32 lo lc l hF k x y (by omega) _ (HT.out.1.below' HB1.out) (HT.out.2.below' HB1.out) HL1.out).mono ?_
  rintro e w2 ⟨rfl, hb2⟩
  have HB2 := Lib.hid (HB1.out.trans (hb2.mono HB1.out.size))
  have HL2 := Lib.hid (HL1.out.after hb2)
  have HV2 := Lib.hid hb2
  obtain ⟨b0, b1, b2⟩ := box3_cells hb2
  clear hb2
  go_wp2_with fail
  refine (matches33 lo lc l hF k x y (by omega) (by omega) _ HL2.out).mono ?_
  rintro e w3 ⟨rfl, hb3⟩
  have HB3 := Lib.hid (HB2.out.trans (hb3.mono HB2.out.size))
  have HL3 := Lib.hid (HL2.out.after hb3)
  have HV3 := Lib.hid (HV2.out.trans (hb3.mono HV2.out.size))
  clear hb3 b0 b1 b2
  obtain ⟨b0, b1, b2⟩ := box3_cells HV3.out
  have hbl : w1.heap.size < w3.heap.size := by have := HV3.out.size; simp at this; omega
  have HF := Lib.hid (fun h1 h2 => matchV_yes (l := l) (k := k) (n := x) (s := y) h1 h2)
  have HP := Lib.hid (show matchB l k x y = true → goodB l = true ∧ matB (k, x, y) = true by intro h; unfold matchB at h; simpa only [Bool.and_eq_true] using h)
  have hkk : (matchB l k x y != matchB l k x y) = false := by simp
  have hss : (matchV l k x y != matchV l k x y) = false := by simp
  clear HB1 HB2 HV2 HL1 HL2
  go_upto_if 72 with fail
  go_cut [7, 8, 9, 10, 11, 12, 13, 14, 15, 16, 17, 18, 19] from 44 to 128 (fun _ _ _ _ _ _ _ _ _ _ _ _ _ wc => Hid (Below w.heap.size w wc))
  case first =>
   cases hg : matchB l k x y
   case false =>
    go_wp2_with fail
    go_meet
    exact HB3
   case true =>
    obtain ⟨hgl, hgm⟩ := HP.out hg
    have hk := mat_kind hgm
    rw [(HF.out hgl hgm).1]
    have HGL := Lib.hid hgl
    have HGM := Lib.hid hgm
    clear hgl hgm HF HP
    have ho := oppo_takes hk y (isL l x)
    have HOM := Lib.hid (oppo_mat HGM.out)
    have HQ := Lib.hid (show matchV l (oppo k) x y = !takesB k y (isL l x) ∧ matchB l (oppo k) x y = true from ⟨(matchV_yes HGL.out HOM.out).1.trans ho, (matchV_yes HGL.out HOM.out).2⟩)
    have HWm := Lib.hid (show matchV (without l [x]) k x y = takesB k y emp ∧ matchB (without l [x]) k x y = true from ⟨by rw [(matchV_yes (good_without HGL.out _) HGM.out).1, without_gone], (matchV_yes (good_without HGL.out _) HGM.out).2⟩)
    have HBn := Lib.hid (fun (q : Int) => (HB3.out.alloc HB3.out.size (.cells #[.int .i64 q, .string x, .string y] 43)).alloc (HB3.out.alloc HB3.out.size (.cells #[.int .i64 q, .string x, .string y] 43)).size (.cells #[.int .i64 0, .int .i64 2, .int .i64 1, .int .i64 4, .int .i64 3] 3))
    have HBm := Lib.hid (fun (q : Int) => ((Below.refl w3.heap.size w3).alloc (Nat.le_refl _) (.cells #[.int .i64 q, .string x, .string y] 43)).alloc ((Below.refl w3.heap.size w3).alloc (Nat.le_refl _) (.cells #[.int .i64 q, .string x, .string y] 43)).size (.cells #[.int .i64 0, .int .i64 2, .int .i64 1, .int .i64 4, .int .i64 3] 3))
    have hFw := fit_without hF [x]
    have HOK := Lib.hid (okW_one HGL.out x)
    have HRW := Lib.hid (resW_one HGL.out x)
    clear ho HOM
    generalize takesB k y (isL l x) = tv at HQ ⊢
    rcases kinds hk with rfl | rfl | rfl | rfl
    all_goals
      have hQ := HQ.out
      simp [oppo] at hQ
      go_wp2_with fail
      refine (matches32 lo lc l hF _ x y (by omega) _ (HT.out.1.below' (HBn.out _)) (HT.out.2.below' (HBn.out _)) (HL3.out.after (HBm.out _))).mono ?_
      rw [hQ.1, hQ.2]
      rintro e w4 ⟨rfl, hb4⟩
      have HB4 := Lib.hid ((HBn.out _).trans (hb4.mono (HBn.out _).size))
      have hbm := (HBm.out _).trans (hb4.mono (HBm.out _).size)
      have HL4 := Lib.hid (HL3.out.after hbm)
      have d0 := (hbm.cell (p := ⟨w1.heap.size, 0, none⟩) hbl).trans b0
      have d1 := (hbm.cell (p := ⟨w1.heap.size, 1, none⟩) hbl).trans b1
      have d2 := (hbm.cell (p := ⟨w1.heap.size, 2, none⟩) hbl).trans b2
      have hl4 : w1.heap.size < w4.heap.size := by have := hbm.size; omega
      clear hb4 hbm hQ
      have HB4a := Lib.hid (HB4.out.alloc HB4.out.size (.cells #[.string x] 9))
      have HBx := Lib.hid ((Below.refl w4.heap.size w4).alloc (Nat.le_refl _) (.cells #[.string x] 9))
      go_wp2_with fail
      refine (without40 lo _ lc _ l [x] hF.1 (by simp) _ (HT.out.1.below' HB4a.out) (HL4.out.after HBx.out) (trow_one w4 x)).mono ?_
      rintro e w5 ⟨v5, rfl, ho5, hb5⟩
      rw [HOK.out]
      rw [HRW.out] at ho5
      obtain ⟨vo, vc, rfl⟩ := own_slice ho5
      have hb45 := HBx.out.trans (hb5.mono HBx.out.size)
      have HB5 := Lib.hid (HB4.out.trans (hb45.mono HB4.out.size))
      have HL5 := Lib.hid (LRow.of_own ho5).2
      have g0 := (hb45.cell (p := ⟨w1.heap.size, 0, none⟩) hl4).trans d0
      have g1 := (hb45.cell (p := ⟨w1.heap.size, 1, none⟩) hl4).trans d1
      have g2 := (hb45.cell (p := ⟨w1.heap.size, 2, none⟩) hl4).trans d2
      have hl5 : w1.heap.size < w5.heap.size := by have := hb45.size; omega
      clear ho5 hb5 hb45 d0 d1 d2 HB4a HBx
      go_wp2_with fail
      refine (matches32 vo vc (without l [x]) hFw _ x y (by omega) _ (HT.out.1.below' HB5.out) (HT.out.2.below' HB5.out) HL5.out).mono ?_
      rw [HWm.out.1, HWm.out.2]
      rintro e w6 ⟨rfl, hb6⟩
      have HB6 := Lib.hid (HB5.out.trans (hb6.mono HB5.out.size))
      have j0 := (hb6.cell (p := ⟨w1.heap.size, 0, none⟩) hl5).trans g0
      have j1 := (hb6.cell (p := ⟨w1.heap.size, 1, none⟩) hl5).trans g1
      have j2 := (hb6.cell (p := ⟨w1.heap.size, 2, none⟩) hl5).trans g2
      clear hb6 g0 g1 g2
      go_wp2_with fail
      refine (takes34 _ x y (by omega) _ (HT.out.1.below' HB6.out) (HT.out.2.below' HB6.out)).mono ?_
      rw [HGM.out, Bool.true_and]
      rintro e w7 ⟨rfl, hb7⟩
      have HB7 := Lib.hid (HB6.out.trans (hb7.mono HB6.out.size))
      clear hb7 j0 j1 j2
      generalize takesB _ y emp = te
      have htt : (te != te) = false := by simp
      have hnt : ((!tv) == tv) = false := by cases tv <;> rfl
      go_wp2_with fail
      go_meet
      exact HB7
  case rest =>
    have HBW := hcut
    clear hcut HF HP HB3 HL3 HV3 b0 b1 b2 hbl hkk hss
    go_wp2_with fail
    refine (draw35 _ bo m d (HBr.out.below HBW.out) (by omega)).mono ?_
    rintro e v1 ⟨ao1, bo1, c1, d1, a, ms, hsa, hsm, rfl, hla, hma, hb⟩
    have HB1 := Lib.hid (HBW.out.trans (hb.mono HBW.out.size))
    have HLa := Lib.hid hla
    have HMa := Lib.hid hma
    have hFa := hsa.fit (by omega)
    have hFm := hsm.fit (by omega)
    have hml := hsm.1
    clear hb hla hma hsa hsm
    go_wp2_with fail
    refine (all36 ao1 bo1 c1 d1 a hFa ms hFm _ (HT.out.1.below' HB1.out) (HT.out.2.below' HB1.out) HLa.out HMa.out).mono ?_
    rintro e v2 ⟨rfl, hb⟩
    have HB2 := Lib.hid (HB1.out.trans (hb.mono HB1.out.size))
    replace HLa := Lib.hid (HLa.out.after hb)
    replace HMa := Lib.hid (HMa.out.after hb)
    clear hb
    go_wp2_with fail
    refine (all37 ao1 bo1 c1 d1 a hFa ms hFm _ HLa.out HMa.out).mono ?_
    rintro e v3 ⟨rfl, hb⟩
    have HB3 := Lib.hid (HB2.out.trans (hb.mono HB2.out.size))
    replace HLa := Lib.hid (HLa.out.after hb)
    replace HMa := Lib.hid (HMa.out.after hb)
    clear hb
    have h1 : (allV2 a ms != allV2 a ms) = false := by simp
    have h2 : (allB2 a ms != allB2 a ms) = false := by simp
    have HPB := Lib.hid (show allB2 a ms = true → (goodB a = true ∧ goodMs ms = true) by intro h; unfold allB2 at h; simpa only [Bool.and_eq_true] using h)
    have HPV := Lib.hid (fun h h2 => allV_yes (l := a) (ms := ms) h h2)
    go_wp2_with fail
    refine (good38 bo1 d1 ms hFm.1 _ (HT.out.1.below' HB3.out) HMa.out).mono ?_
    rintro e v4 ⟨rfl, hb⟩
    have HB4 := Lib.hid (HB3.out.trans (hb.mono HB3.out.size))
    replace HLa := Lib.hid (HLa.out.after hb)
    replace HMa := Lib.hid (HMa.out.after hb)
    clear hb
    go_wp2_with fail
    refine (good39 bo1 d1 ms hFm _ HMa.out).mono ?_
    rintro e v5 ⟨rfl, hb⟩
    have HB5 := Lib.hid (HB4.out.trans (hb.mono HB4.out.size))
    replace HLa := Lib.hid (HLa.out.after hb)
    replace HMa := Lib.hid (HMa.out.after hb)
    clear hb HB1 HB2 HB3 HB4 HBW
    have h3 : (goodMs ms != goodMs ms) = false := by simp
    clear h1 h2 h3
    go_upto_if 161 with fail
    go_cut [22, 23, 24, 25, 26, 28, 29, 30] from 129 to 183 (fun _ _ _ _ _ _ _ _ wc => Hid (Below w.heap.size w wc))
    case first =>
     cases hone : allB2 a ms
     case false =>
      go_wp2_with fail
      go_meet
      exact HB5
     case true =>
      obtain ⟨hga, hgm⟩ := HPB.out hone
      have HV := Lib.hid (HPV.out hga hgm).1
      have HMt : Hid (∀ (k : Nat) (hk : k < ms.length), matB ms[k] = true) := Lib.hid fun k hk => by
        unfold goodMs at hgm
        simp only [Bool.and_eq_true, List.all_eq_true] at hgm
        exact hgm.2 _ (List.getElem_mem hk)
      have HGa := Lib.hid hga
      rw [HV.out]
      go_wp2_with fail
      clear hga hgm HPV HPB
      go_loopw [26, 164] (fun bv i wr => ∃ k : Nat, k ≤ ms.length ∧ i = .int .i64 k ∧ bv = .bool ((ms.take k).all (matchOne a)) ∧ Hid (Below v5.heap.size v5 wr)) (fun _ i _ => ms.length - (intOf i).toNat)
      case atStart => exact ⟨0, Nat.zero_le _, rfl, rfl, Below.refl _ _⟩
      case round =>
        obtain ⟨k, hk, rfl, rfl, hb⟩ := hrel
        have HBr5 := Lib.hid (HB5.out.trans (hb.out.mono HB5.out.size))
        by_cases hlt : k < ms.length
        · obtain ⟨bb, off, hbo, hbl, hc⟩ := HMa.out (by omega)
          have s0 := (hb.out.cell (p := ⟨bb, off + k * 3, none⟩) hbl).trans (hc k hlt).1
          have s1 := (hb.out.cell (p := ⟨bb, off + k * 3 + 1, none⟩) hbl).trans (hc k hlt).2.1
          have s2 := (hb.out.cell (p := ⟨bb, off + k * 3 + 2, none⟩) hbl).trans (hc k hlt).2.2
          subst hbo
          have hz := hFm.at hlt
          have hmt := HMt.out k hlt
          have HTk := Lib.hid (show (ms.take (k + 1)).all (matchOne a) = ((ms.take k).all (matchOne a) && matchOne a ms[k]) by rw [List.take_succ_eq_append_getElem hlt, List.all_append]; simp)
          have HBx := Lib.hid (HBr5.out.alloc HBr5.out.size (.cells #[.int .i64 ms[k].1, .string ms[k].2.1, .string ms[k].2.2] 43))
          have HBy := Lib.hid (hb.out.alloc hb.out.size (.cells #[.int .i64 ms[k].1, .string ms[k].2.1, .string ms[k].2.2] 43))
          clear hc
          generalize ms[k] = z at s0 s1 s2 hz hmt HTk HBx HBy
          obtain ⟨z0, z1, z2⟩ := z
          have HW2 := Lib.hid (show matchV a z0 z1 z2 = matchOne a (z0, z1, z2) ∧ matchB a z0 z1 z2 = true from matchV_yes HGa.out hmt)
          go_wp2_with fail
          refine (matches32 ao1 c1 a hFa z0 z1 z2 hz.2 _ (HT.out.1.below' HBx.out) (HT.out.2.below' HBx.out) (HLa.out.after HBy.out)).mono ?_
          rw [HW2.out.1, HW2.out.2]
          rintro e v6 ⟨rfl, hb6⟩
          have HB6 := Lib.hid (HBy.out.trans (hb6.mono HBy.out.size))
          clear hb6
          generalize matchOne a (z0, z1, z2) = mo at HTk ⊢
          generalize (ms.take k).all (matchOne a) = bt at HTk ⊢
          cases bt
          · go_wp2
            go_roundw
            case rel => exact ⟨k + 1, by omega, by go_num, by rw [HTk.out]; rfl, HB6⟩
            case measure => simp [intOf]; omega
          · go_wp2
            go_roundw
            case rel => exact ⟨k + 1, by omega, by go_num, by rw [HTk.out]; rfl, HB6⟩
            case measure => simp [intOf]; omega
        · obtain rfl : k = ms.length := by omega
          rw [List.take_length]
          have hvv : (ms.all (matchOne a) != ms.all (matchOne a)) = false := by simp
          generalize ms.all (matchOne a) = va at hvv ⊢
          clear hb
          go_wp2_with fail
          go_meet
          exact HBr5
    case rest =>
      have HBZ := hcut
      clear hcut HPV HPB HLa HMa HB5
      go_wp2_with fail
      refine (draw40 _ bo m d (HBr.out.below HBZ.out) (by omega)).mono ?_
      rintro e t1 ⟨f, s, hf, hs, rfl, hb⟩
      have HC1 := Lib.hid (HBZ.out.trans (hb.mono HBZ.out.size))
      clear hb
      go_wp2_with fail
      refine (like41b f s (by omega) (by omega) _ (HT.out.1.bar.below' HC1.out) (HT.out.2.below' HC1.out)).mono ?_
      rintro e t2 ⟨rfl, hb⟩
      have HC2 := Lib.hid (HC1.out.trans (hb.mono HC1.out.size))
      clear hb
      go_wp2_with fail
      refine (like42 f s (by omega) (by omega) _).mono ?_
      rintro e t3 ⟨rfl, hb⟩
      have HC3 := Lib.hid (HC2.out.trans (hb.mono HC2.out.size))
      clear hb
      go_wp2_with fail
      refine (like41b ⟨#[42]⟩ s (by decide) (by omega) _ (HT.out.1.bar.below' HC3.out) (HT.out.2.below' HC3.out)).mono ?_
      rw [star_word, star_all, Bool.true_and, Bool.true_and, Bool.and_true]
      rintro e t4 ⟨rfl, hb⟩
      have HC4 := Lib.hid (HC3.out.trans (hb.mono HC3.out.size))
      clear hb
      go_wp2_with fail
      refine (draw43 _ bo m d (HBr.out.below HC4.out) (by omega)).mono ?_
      rintro e t5 ⟨tk, tx, ty, htx, hty, rfl, hb⟩
      have HC5' := Lib.hid (HC4.out.trans (hb.mono HC4.out.size))
      have HC5 := Lib.hid (HC5'.out.alloc HC5'.out.size (.cells #[.int .i64 tk, .string tx, .string ty] 43))
      clear hb
      go_wp2_with fail
      refine (takes34 tk tx ty (by omega) _ (HT.out.1.below' HC5.out) (HT.out.2.below' HC5.out)).mono ?_
      rintro e t6 ⟨rfl, hb⟩
      have HC6 := Lib.hid (HC5.out.trans (hb.mono HC5.out.size))
      obtain ⟨r0, r1, r2⟩ := box3_cells hb
      clear hb
      go_wp2_with fail
      refine (takes44 tk tx ty (by omega) (by omega) _).mono ?_
      rintro e t7 ⟨rfl, hb⟩
      have HC7 := Lib.hid (HC6.out.trans (hb.mono HC6.out.size))
      clear hb r0 r1 r2
      generalize (matB (tk, tx, ty) && takesB tk ty emp) = u1
      generalize matB (tk, tx, ty) = u2
      have e1 : (u1 == u1) = true := by simp
      have e2 : (u2 == u2) = true := by simp
      generalize hu3 : wordB s = u3
      generalize wordB f = u4
      generalize likeS f s = u5
      clear hu3
      have e3 : ((u4 && (u3 && u5)) == (u4 && (u3 && u5))) = true := by simp
      have e4 : ((u4 && u3) == (u4 && u3)) = true := by simp
      cases u3 <;> cases u4 <;> cases u5
      all_goals
        go_wp2
        go_ret
        exact ⟨rfl, HC7.out⟩
end Go.Proofs.YtpbcgfgjdimpmaaDoor
