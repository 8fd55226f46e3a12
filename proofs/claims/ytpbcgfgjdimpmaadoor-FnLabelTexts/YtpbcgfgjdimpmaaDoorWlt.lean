/- The walk of the law FnLabelTexts: at every two lists of bytes, in a world that holds the program's tables, its call returns true and writes nothing that was there. -/
import Derived.Test.YtpbcgfgjdimpmaaDoorJm
import Derived.Test.YtpbcgfgjdimpmaaDoorJw
import Derived.Deep.CutRange
namespace Go.Proofs.YtpbcgfgjdimpmaaDoor
open Go.RowKit Go.Deep

theorem reads_txt {l : List Lab} (h : goodB l = true) : Reads (txtF l).data.toList l := by
  rw [txtF_yes h]; exact ⟨h, by simp [textS]⟩
theorem txt_reads {t : ByteArray} {l : List Lab} (h : Reads t.data.toList l) : txtF l = t := by
  rw [txtF_yes h.1]
  exact data_eq (by have := h.2; simp [textS]; exact this)
theorem resW_good {l : List Lab} {ns : List ByteArray} (h : okW l ns = true) : goodB (resW l ns) = true := by
  have hg : goodB l = true := by unfold okW at h; exact (Bool.and_eq_true _ _ ▸ h).1
  simp only [resW, h, cond_true]
  exact good_without hg _
theorem resW_le (l : List Lab) (ns : List ByteArray) : (resW l ns).length ≤ l.length := by
  unfold resW
  cases okW l ns
  · simp
  · exact without_le l ns
theorem resW_fit {l : List Lab} (h : Fit l) (ns : List ByteArray) : Fit (resW l ns) := by
  unfold resW
  cases okW l ns
  · exact ⟨by simp, by simp⟩
  · exact ⟨Nat.le_trans (without_le l ns) h.1, fun x hx => h.2 x (List.mem_filter.1 hx).1⟩
theorem hash_nat {l : List Lab} (h : goodB l = true) : ∃ k : Nat, k < 1009 ∧ hashF l = (k : Int) := ⟨_, hashN_lt _, hashF_yes h⟩

set_option maxHeartbeats 40000000 in
set_option maxRecDepth 100000 in
theorem walk_fnLabelTexts (w : World) (ao : Option Addr) (c n : Nat) (bo : Option Addr) (d m : Nat) (hT : Tabs w ∧ MaxC w) (ha : BRow w w.heap.size ao n) (hb : BRow w w.heap.size bo m) :
    Calls Tryd.prog 3 #[.slice ao n c, .slice bo m d] w fun e w' => e = .returned (.bool true) ∧ Below w.heap.size w w' := by
  have HT := Lib.hid hT
  have HA := Lib.hid ha
  have HBr := Lib.hid hb
  clear hT ha hb
  go_enter Tryd.func3, Tryd.ntmps3
  go_wp2_with fail
  refine (big14 w ao bo n m c d).mono ?_
  rintro e w0 ⟨rfl, rfl⟩
  by_cases hbig : 1048576 < n + m
  · have hq : decide (1048576 < n + m) = true := by simpa using hbig
    rw [hq]
    go_wp2
    go_ret
    exact ⟨rfl, Below.refl _ _⟩
  have hq : decide (1048576 < n + m) = false := by simpa using hbig
  rw [hq]
  go_wp2_with fail
  refine (draw15 w ao n c HA.out (by omega)).mono ?_
  rintro e w1 ⟨lo, lc, l, hsl, rfl, hlr, hb1⟩
  have hF := hsl.fit (by omega)
  have HB := Lib.hid hb1
  have HL := Lib.hid hlr
  clear hb1 hlr hsl
  go_wp2_with fail
  refine (text30 lo lc l hF.1 _ (HT.out.1.below' HB.out) HL.out).mono ?_
  rintro e w2 ⟨rfl, hb2⟩
  replace HB := Lib.hid (HB.out.trans (hb2.mono HB.out.size))
  replace HL := Lib.hid (HL.out.after hb2)
  clear hb2
  go_wp2_with fail
  refine (text31 lo lc l hF _ HL.out).mono ?_
  rintro e w3 ⟨rfl, hb2⟩
  replace HB := Lib.hid (HB.out.trans (hb2.mono HB.out.size))
  replace HL := Lib.hid (HL.out.after hb2)
  clear hb2
  go_wp2_with fail
  refine (hash32 lo lc l hF.1 _ (HT.out.1.below' HB.out) HL.out).mono ?_
  rintro e w4 ⟨rfl, hb2⟩
  replace HB := Lib.hid (HB.out.trans (hb2.mono HB.out.size))
  replace HL := Lib.hid (HL.out.after hb2)
  clear hb2
  go_wp2_with fail
  refine (hash33 lo lc l hF _ HL.out).mono ?_
  rintro e w5 ⟨rfl, hb2⟩
  replace HB := Lib.hid (HB.out.trans (hb2.mono HB.out.size))
  replace HL := Lib.hid (HL.out.after hb2)
  clear hb2
  have hgg : (goodB l != goodB l) = false := by simp
  have hss : ((txtF l).toList != (txtF l).toList) = false := by simp
  have hhh : (hashF l != hashF l) = false := by simp
  have hz := txtF_size l
  have HY := Lib.hid (fun h => reads_txt (l := l) h)
  have HN := Lib.hid (fun h => hash_nat (l := l) h)
  go_upto_if 85 with fail
  go_cut [5, 6, 7, 8, 9, 10, 11, 12, 13, 14, 15, 16, 17] from 40 to 120 (fun _ _ _ _ _ _ _ _ _ _ _ _ _ wc => Hid (Below w.heap.size w wc))
  case first =>
    cases hg : goodB l
    case false =>
      go_wp2_with fail
      go_meet
      exact HB
    case true =>
      replace HY := Lib.hid (HY.out hg)
      obtain ⟨hk, hk9, hkE⟩ := HN.out hg
      clear HN
      have HG := Lib.hid hg
      go_wp2_with fail
      refine (read20 (txtF l) (by omega) _ (HT.out.1.below' HB.out) (HT.out.2.below' HB.out)).mono ?_
      rintro e w6 ⟨v6, r6, l6, rfl, ho6, hb6, y6, n6⟩
      obtain ⟨rfl, rfl⟩ : r6 = true ∧ l6 = l := by
        cases r6
        · exact absurd HY.out ((n6 rfl).2 _)
        · exact ⟨rfl, reads_unique (y6 rfl) HY.out⟩
      obtain ⟨a6, c6, rfl⟩ := own_slice ho6
      have HX := Lib.hid (LRow.of_own ho6).2
      replace HB := Lib.hid (HB.out.trans (hb6.mono HB.out.size))
      replace HL := Lib.hid (HL.out.after hb6)
      clear ho6 hb6 y6 n6
      go_wp2_with fail
      refine (hash32 a6 c6 l6 hF.1 _ (HT.out.1.below' HB.out) HX.out).mono ?_
      rw [HG.out]
      rintro e w7 ⟨rfl, hb7⟩
      replace HB := Lib.hid (HB.out.trans (hb7.mono HB.out.size))
      replace HL := Lib.hid (HL.out.after hb7)
      replace HX := Lib.hid (HX.out.after hb7)
      clear hb7
      go_wp2_with fail
      refine (same21 a6 lo c6 lc l6 hF.1 _ HX.out HL.out).mono ?_
      rintro e w8 ⟨rfl, hb8⟩
      replace HB := Lib.hid (HB.out.trans (hb8.mono HB.out.size))
      clear hb8 HL HX
      have hkk : ((hk : Int) != (hk : Int)) = false := by simp
      have hk0 : decide ((hk : Int) < 0) = false := by simp
      have hk1 : decide ((1009 : Int) ≤ (hk : Int)) = false := by simp; omega
      go_wp2_with fail
      go_meet
      exact HB
  case rest =>
    have HBW := hcut
    clear hcut HB HL HY HN hgg hss hhh hz hF
    go_wp2_with fail
    refine (draw22 _ bo m d (HBr.out.below HBW.out) (by omega)).mono ?_
    rintro e v1 ⟨t, ht, rfl, hb⟩
    have HB := Lib.hid (HBW.out.trans (hb.mono HBW.out.size))
    clear hb HBW
    go_wp2_with fail
    refine (read20 t (by omega) _ (HT.out.1.below' HB.out) (HT.out.2.below' HB.out)).mono ?_
    rintro e v2 ⟨x2, r2, l2, rfl, ho2, hb2, y2, n2⟩
    obtain ⟨a2, c2, rfl⟩ := own_slice ho2
    have HX := Lib.hid (LRow.of_own ho2).2
    replace HB := Lib.hid (HB.out.trans (hb2.mono HB.out.size))
    have HY := Lib.hid y2
    have HN := Lib.hid n2
    clear ho2 hb2 y2 n2
    go_wp2_with fail
    refine (read36 t (by omega) _).mono ?_
    rintro e v3 ⟨x3, r3, l3, rfl, ho3, hb3, y3, n3⟩
    obtain ⟨rfl, rfl⟩ := readEnd_same HY.out HN.out y3 n3
    have hF2 := readEnd_fit y3 n3
    obtain ⟨a3, c3, rfl⟩ := own_slice ho3
    have HZ := Lib.hid (LRow.of_own ho3).2
    replace HB := Lib.hid (HB.out.trans (hb3.mono HB.out.size))
    replace HX := Lib.hid (HX.out.after hb3)
    clear ho3 hb3 y3 n3 HN
    have hrr : (r2 != r2) = false := by simp
    go_wp2_with fail
    refine (same21 a2 a3 c2 c3 l2 hF2.1 _ HX.out HZ.out).mono ?_
    rintro e v4 ⟨rfl, hb4⟩
    replace HB := Lib.hid (HB.out.trans (hb4.mono HB.out.size))
    replace HX := Lib.hid (HX.out.after hb4)
    clear hb4 HZ
    go_upto_if 142 with fail
    go_cut [18, 19, 20, 21, 22, 23, 24] from 121 to 154 (fun _ _ _ _ _ _ _ wc => Hid (Below w.heap.size w wc))
    case first =>
      cases r2
      case false =>
        go_wp2_with fail
        go_meet
        exact HB
      case true =>
        have hR := HY.out rfl
        have HG := Lib.hid hR.1
        have HE := Lib.hid (txt_reads hR)
        clear hR HY
        go_wp2_with fail
        refine (text30 a2 c2 l2 hF2.1 _ (HT.out.1.below' HB.out) HX.out).mono ?_
        rw [HE.out, HG.out]
        rintro e v5 ⟨rfl, hb5⟩
        replace HB := Lib.hid (HB.out.trans (hb5.mono HB.out.size))
        clear hb5 HX
        have htt : (t.toList != t.toList) = false := by simp
        go_wp2_with fail
        go_meet
        exact HB
    case rest =>
      have HBW := hcut
      clear hcut HB HX HY hrr hF2
      go_wp2_with fail
      refine (draw24 _ bo m d (HBr.out.below HBW.out) (by omega)).mono ?_
      rintro e u1 ⟨ao1, c1, a, nm, hsa, rfl, hla, hb1⟩
      have hFa := hsa.fit (by omega)
      have HB := Lib.hid (HBW.out.trans (hb1.mono HBW.out.size))
      have HL := Lib.hid hla
      clear hb1 hla hsa HBW
      go_wp2_with fail
      refine (is20 ao1 c1 a hFa.1 nm _ (HT.out.1.below' HB.out) HL.out).mono ?_
      rintro e u2 ⟨rfl, hb2⟩
      replace HB := Lib.hid (HB.out.trans (hb2.mono HB.out.size))
      replace HL := Lib.hid (HL.out.after hb2)
      clear hb2
      go_wp2_with fail
      refine (is38 ao1 c1 a hFa nm _ HL.out).mono ?_
      rintro e u3 ⟨rfl, hb3⟩
      replace HB := Lib.hid (HB.out.trans (hb3.mono HB.out.size))
      clear hb3 HL
      have h1 : (goodB a == goodB a) = true := by simp
      have h2 : ((isF a nm).toList == (isF a nm).toList) = true := by simp
      generalize goodB a = ga at h1 ⊢
      generalize isF a nm = iv at h2 ⊢
      clear hFa
      go_wp2_with fail
      refine (draw27 _ bo m d (HBr.out.below HB.out) (by omega)).mono ?_
      rintro e u4 ⟨ao4, bo4, c4, d4, b, ns, hsb, hns, rfl, hlb, htb, hb4⟩
      have hFb := hsb.fit (by omega)
      replace HB := Lib.hid (HB.out.trans (hb4.mono HB.out.size))
      have HL := Lib.hid hlb
      have HN := Lib.hid htb
      clear hb4 hlb htb hsb
      go_wp2_with fail
      refine (without40 ao4 bo4 c4 d4 b ns hFb.1 (by omega) _ (HT.out.1.below' HB.out) HL.out HN.out).mono ?_
      rintro e u5 ⟨v5, rfl, ho5, hb5⟩
      obtain ⟨a5, c5, rfl⟩ := own_slice ho5
      have HX := Lib.hid (LRow.of_own ho5).2
      replace HB := Lib.hid (HB.out.trans (hb5.mono HB.out.size))
      replace HL := Lib.hid (HL.out.after hb5)
      replace HN := Lib.hid (HN.out.after hb5)
      clear ho5 hb5
      go_wp2_with fail
      refine (without41 ao4 bo4 c4 d4 b ns hFb (by omega) _ HL.out HN.out).mono ?_
      rintro e u6 ⟨v6, rfl, ho6, hb6⟩
      obtain ⟨a6, c6, rfl⟩ := own_slice ho6
      have HZ := Lib.hid (LRow.of_own ho6).2
      replace HB := Lib.hid (HB.out.trans (hb6.mono HB.out.size))
      replace HX := Lib.hid (HX.out.after hb6)
      clear ho6 hb6 HL HN
      have hFr := resW_fit hFb ns
      have hle := resW_le b ns
      have HOK := Lib.hid (fun h => resW_good (l := b) (ns := ns) h)
      have h3 : (okW b ns == okW b ns) = true := by simp
      generalize okW b ns = ok at h3 HOK ⊢
      generalize resW b ns = rs at hFr hle HOK HX HZ ⊢
      generalize b.length = bl at hle ⊢
      have hlr := hFr.1
      go_wp2_with fail
      refine (same21 a5 a6 c5 c6 rs hFr.1 _ HX.out HZ.out).mono ?_
      rintro e u7 ⟨rfl, hb7⟩
      replace HB := Lib.hid (HB.out.trans (hb7.mono HB.out.size))
      replace HX := Lib.hid (HX.out.after hb7)
      clear hb7 HZ
      cases ok
      case false =>
        go_wp2
        go_ret
        exact ⟨rfl, HB.out⟩
      case true =>
        replace HOK := Lib.hid (HOK.out rfl)
        go_wp2_with fail
        refine (good19 a5 c5 rs hFr.1 _ (HT.out.1.below' HB.out) HX.out).mono ?_
        rw [HOK.out]
        rintro e u8 ⟨rfl, hb8⟩
        replace HB := Lib.hid (HB.out.trans (hb8.mono HB.out.size))
        clear hb8
        have hd : decide ((rs.length : Int) ≤ (bl : Int)) = true := by simpa using hle
        go_wp2
        go_ret
        exact ⟨rfl, HB.out⟩
end Go.Proofs.YtpbcgfgjdimpmaaDoor
