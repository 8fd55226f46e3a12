/- Contract of CutAt in the program, over this seat's translation. -/
import Derived.Test.YteiefngamccapaaK14
namespace Go.Proofs.Yteiefngamccapaa
open Go.RowKit Go.Deep

set_option maxHeartbeats 4000000 in
set_option maxRecDepth 100000 in
theorem cut33 (s : ByteArray) (c1 c2 c3 t : Int) (hs : s.size ≤ 1048576) (w : World) : Calls Try.prog 63 #[.agg #[.string s, .int .i64 c1, .int .i64 c2, .int .i64 c3], .int .i64 t] w (CtEnd (s, c1, c2, c3) t w) := by
  have HB0 := Lib.hid ((((Below.refl w.heap.size w).alloc (Nat.le_refl _) (.cells #[.string s, .int .i64 c1, .int .i64 c2, .int .i64 c3] 85)).alloc (by simp) (.cells #[zS, zI, zI, zI] 85)).alloc (by simp; omega) (.cells #[zS, zI, zI, zI] 85))
  have HXa := Lib.hid ((Bx.new (w.alloc (.cells #[.string s, .int .i64 c1, .int .i64 c2, .int .i64 c3] 85)) zS zI zI zI 85).alloc (.cells #[zS, zI, zI, zI] 85))
  have HXb := Lib.hid (Bx.new ((w.alloc (.cells #[.string s, .int .i64 c1, .int .i64 c2, .int .i64 c3] 85)).alloc (.cells #[zS, zI, zI, zI] 85)) zS zI zI zI 85)
  simp only [World.size_alloc] at HXa HXb
  have HC := Lib.hid (fun W => of27 s c1 c2 c3 hs W)
  unfold SoEnd at HC
  unfold CtEnd
  by_cases hg : soB (s, c1, c2, c3) = true
  case neg =>
    have hg : soB (s, c1, c2, c3) = false := by simpa using hg
    have HN := Lib.hid (ct_no (t := t) hg)
    rw [so_not hg, hg] at HC
    rw [List.length_nil] at HC
    clear hg
    go_enter Try.func63, Try.ntmps63
    go_wp2_with fail
    refine (HC.out _).mono ?_
    rintro e w1 ⟨⟨ao, cp, rfl, _⟩, hb1⟩
    have hbs := HB0.out.trans (hb1.mono HB0.out.size)
    obtain ⟨z0, z1, z2, z3, f0, f1, f2, f3⟩ := (HXa.out.below hb1).cells
    obtain ⟨v0, v1, v2, v3, g0, g1, g2, g3⟩ := (HXb.out.below hb1).cells
    clear hb1
    go_wp2
    exact bodyPost_ret (v := .tuple #[.agg #[zS, zI, zI, zI], .agg #[zS, zI, zI, zI], .bool false]) (by simp [results, Try.results63, go_sem, z0, z1, z2, z3, v0, v1, v2, v3]) rfl ⟨HN.out, below4 (below4 hbs (by omega)) (by omega)⟩
  have HI := Lib.hid (so_is hg)
  have HCT := Lib.hid (fun (k : Nat) (p q : Chk) => ct_yes (c := (s, c1, c2, c3)) (t := t) (k := k) (p := p) (q := q) hg)
  have HPK := Lib.hid HI.out.2.1
  have HFit := Lib.hid HI.out.1
  have h8 := HI.out.len
  rw [hg] at HC
  clear hg HI
  generalize soL (s, c1, c2, c3) = l at HC HCT HPK HFit h8
  go_enter Try.func63, Try.ntmps63
  go_wp2_with fail
  refine (HC.out _).mono ?_
  rintro e w1 ⟨⟨ao, cp, rfl, ho⟩, hb1⟩
  have hcp := own_len ho
  have HS1 := Lib.hid (SRow.of_own ho).2
  have HB1 := Lib.hid (HB0.out.trans (hb1.mono HB0.out.size))
  have HXa1 := Lib.hid (HXa.out.below hb1)
  have HXb1 := Lib.hid (HXb.out.below hb1)
  clear ho hb1 HB0 HXa HXb HC
  go_wp2
  go_loopw [9] (fun i wr => ∃ k : Nat, k ≤ l.length ∧ i = .int .i64 k ∧ wr = w1 ∧ Hid (CK l t k)) (fun i _ => l.length - (intOf i).toNat)
  case atStart => exact ⟨0, Nat.zero_le _, rfl, rfl, Lib.hid (ck_zero l t)⟩
  case round =>
    obtain ⟨k, hle, rfl, rfl, hK⟩ := hrel
    by_cases hlt : k < l.length
    · obtain ⟨b, off, rfl, hbl, hc⟩ := HS1.out.tv (by omega)
      have c0 := (hc k hlt).1
      have HTk := Lib.hid (fun h : tF l k < t => ck_succ hK.out hlt h)
      have HTn := Lib.hid (fun h : t ≤ tF l k => ck_is hK.out (.inr h))
      generalize tF l k = x at c0 HTk HTn
      clear hc
      by_cases hx : x < t
      · have HT2 := Lib.hid (HTk.out hx)
        go_wp2
        go_roundw
        case rel => exact ⟨k + 1, by omega, by go_num, by trivial, HT2⟩
        case measure => simp [intOf]; omega
      have HKK := Lib.hid (HTn.out (by omega))
      obtain ⟨ao1, ao2, hs1, hs2, hsr⟩ := cut_slices (some ⟨b, off, none⟩) l k cp hle hcp
      obtain ⟨hR1, hR2⟩ := hsr _ _ HS1.out
      have HR2 := Lib.hid (fun (W : World) (hb : Below wr.heap.size wr W) => hR2.after hb)
      have HR1 := Lib.hid hR1
      have hl1 : (l.take k).length = k := by rw [List.length_take]; omega
      have hl2 : (l.drop k).length = l.length - k := List.length_drop
      have HP1 := Lib.hid (fun W hW => pack23 ao1 cp (l.take k) (HFit.out.take k) (by omega) W hW)
      have HP2 := Lib.hid (fun W hW => pack23 ao2 (cp - k) (l.drop k) (HFit.out.drop k) (by omega) W hW)
      unfold PkEnd at HP1 HP2
      rw [hl1, pkB_take HPK.out k, pkR_yes (pkB_take HPK.out k)] at HP1
      rw [hl2, pkB_drop HPK.out k, pkR_yes (pkB_drop HPK.out k)] at HP2
      have HY := Lib.hid (fun (p q : Chk) => HCT.out k p q HKK.out)
      clear hR1 hR2 hsr hl1 hl2
      obtain ⟨p, hp⟩ : ∃ p, p = pkC (l.take k) := ⟨_, rfl⟩
      obtain ⟨q, hq⟩ : ∃ q, q = pkC (l.drop k) := ⟨_, rfl⟩
      have HYY := Lib.hid (HY.out p q hp hq)
      rw [← hp] at HP1
      rw [← hq] at HP2
      clear hp hq HY
      obtain ⟨s1, x1, y1, z1⟩ := p
      obtain ⟨s2, x2, y2, z2⟩ := q
      unfold chV at HP1 HP2
      simp only at HP1 HP2
      go_wp2_with fail
      refine (HP1.out _ HR1.out).mono ?_
      rintro e w2 ⟨rfl, hb2⟩
      have HB2 := Lib.hid hb2
      have HX1 := Lib.hid (Bx.new w2 (.string s1) (.int .i64 x1) (.int .i64 y1) (.int .i64 z1) 85)
      clear hb2
      go_wp2_with fail
      refine Calls.mono (HP2.out _ ?hr2) ?_
      case hr2 => exact HR2.out _ (HB2.out.alloc HB2.out.size _)
      rintro e w3 ⟨rfl, hb3⟩
      have HX1 := Lib.hid (HX1.out.below hb3)
      have hne : w2.heap.size < w3.heap.size := Nat.lt_of_lt_of_le (by simp) hb3.size
      have HB3 := Lib.hid ((HB2.out.alloc HB2.out.size _).trans (hb3.mono (Nat.le_trans HB2.out.size (by simp))))
      clear hb3
      go_wp2_with fail
      obtain ⟨W4, hW4⟩ : ∃ W, W = w3.alloc (.cells #[.string s2, .int .i64 x2, .int .i64 y2, .int .i64 z2] 85) := ⟨_, rfl⟩
      have HB4 : Hid (Below wr.heap.size wr W4) := Lib.hid (by rw [hW4]; exact HB3.out.alloc HB3.out.size _)
      have HXp : Hid (Bx W4 w2.heap.size (.string s1) (.int .i64 x1) (.int .i64 y1) (.int .i64 z1)) := Lib.hid (by rw [hW4]; exact HX1.out.alloc _)
      have HXq : Hid (Bx W4 w3.heap.size (.string s2) (.int .i64 x2) (.int .i64 y2) (.int .i64 z2)) := Lib.hid (by rw [hW4]; exact Bx.new w3 _ _ _ _ 85)
      try rw [← hW4]
      clear hW4
      obtain ⟨p0, p1, p2, p3, _⟩ := HXp.out.cells
      obtain ⟨q0, q1, q2, q3, _⟩ := HXq.out.cells
      obtain ⟨z0, z1', z2', z3, f0, f1, f2, f3⟩ := (HXa1.out.below HB4.out).cells
      obtain ⟨v0, v1, v2, v3, g0, g1, g2, g3⟩ := (HXb1.out.below HB4.out).cells
      have hbs := HB1.out.trans (HB4.out.mono HB1.out.size)
      have hla := Nat.lt_of_lt_of_le HXa1.out.lt HB2.out.size
      have hlb := Nat.lt_of_lt_of_le HXb1.out.lt HB2.out.size
      have n1 : w2.heap.size ≠ w.heap.size + 1 := by omega
      have n2 : w2.heap.size ≠ w.heap.size + 1 + 1 := by omega
      have n3 : w3.heap.size ≠ w.heap.size + 1 := by omega
      have n4 : w3.heap.size ≠ w.heap.size + 1 + 1 := by omega
      have m1 : w.heap.size + 1 ≠ w2.heap.size := by omega
      have m3 : w.heap.size + 1 ≠ w3.heap.size := by omega
      go_region
      all_goals go_wp2
      all_goals exact bodyPost_ret (v := .tuple #[.agg #[.string s1, .int .i64 x1, .int .i64 y1, .int .i64 z1], .agg #[.string s2, .int .i64 x2, .int .i64 y2, .int .i64 z2], .bool true]) (by simp [results, Try.results63, go_sem, z0, z1', z2', z3, v0, v1, v2, v3]) rfl ⟨HYY.out, (below4 (below4 hbs (by omega)) (by omega)).drew⟩
    · have HKK := Lib.hid (ck_is hK.out (.inl (by omega)))
      obtain ⟨ao1, ao2, hs1, hs2, hsr⟩ := cut_slices ao l k cp hle hcp
      obtain ⟨hR1, hR2⟩ := hsr _ _ HS1.out
      have HR2 := Lib.hid (fun (W : World) (hb : Below wr.heap.size wr W) => hR2.after hb)
      have HR1 := Lib.hid hR1
      have hl1 : (l.take k).length = k := by rw [List.length_take]; omega
      have hl2 : (l.drop k).length = l.length - k := List.length_drop
      have HP1 := Lib.hid (fun W hW => pack23 ao1 cp (l.take k) (HFit.out.take k) (by omega) W hW)
      have HP2 := Lib.hid (fun W hW => pack23 ao2 (cp - k) (l.drop k) (HFit.out.drop k) (by omega) W hW)
      unfold PkEnd at HP1 HP2
      rw [hl1, pkB_take HPK.out k, pkR_yes (pkB_take HPK.out k)] at HP1
      rw [hl2, pkB_drop HPK.out k, pkR_yes (pkB_drop HPK.out k)] at HP2
      have HY := Lib.hid (fun (p q : Chk) => HCT.out k p q HKK.out)
      clear hR1 hR2 hsr hl1 hl2
      obtain ⟨p, hp⟩ : ∃ p, p = pkC (l.take k) := ⟨_, rfl⟩
      obtain ⟨q, hq⟩ : ∃ q, q = pkC (l.drop k) := ⟨_, rfl⟩
      have HYY := Lib.hid (HY.out p q hp hq)
      rw [← hp] at HP1
      rw [← hq] at HP2
      clear hp hq HY
      obtain ⟨s1, x1, y1, z1⟩ := p
      obtain ⟨s2, x2, y2, z2⟩ := q
      unfold chV at HP1 HP2
      simp only at HP1 HP2
      go_wp2_with fail
      refine (HP1.out _ HR1.out).mono ?_
      rintro e w2 ⟨rfl, hb2⟩
      have HB2 := Lib.hid hb2
      have HX1 := Lib.hid (Bx.new w2 (.string s1) (.int .i64 x1) (.int .i64 y1) (.int .i64 z1) 85)
      clear hb2
      go_wp2_with fail
      refine Calls.mono (HP2.out _ ?hr2) ?_
      case hr2 => exact HR2.out _ (HB2.out.alloc HB2.out.size _)
      rintro e w3 ⟨rfl, hb3⟩
      have HX1 := Lib.hid (HX1.out.below hb3)
      have hne : w2.heap.size < w3.heap.size := Nat.lt_of_lt_of_le (by simp) hb3.size
      have HB3 := Lib.hid ((HB2.out.alloc HB2.out.size _).trans (hb3.mono (Nat.le_trans HB2.out.size (by simp))))
      clear hb3
      go_wp2_with fail
      obtain ⟨W4, hW4⟩ : ∃ W, W = w3.alloc (.cells #[.string s2, .int .i64 x2, .int .i64 y2, .int .i64 z2] 85) := ⟨_, rfl⟩
      have HB4 : Hid (Below wr.heap.size wr W4) := Lib.hid (by rw [hW4]; exact HB3.out.alloc HB3.out.size _)
      have HXp : Hid (Bx W4 w2.heap.size (.string s1) (.int .i64 x1) (.int .i64 y1) (.int .i64 z1)) := Lib.hid (by rw [hW4]; exact HX1.out.alloc _)
      have HXq : Hid (Bx W4 w3.heap.size (.string s2) (.int .i64 x2) (.int .i64 y2) (.int .i64 z2)) := Lib.hid (by rw [hW4]; exact Bx.new w3 _ _ _ _ 85)
      try rw [← hW4]
      clear hW4
      obtain ⟨p0, p1, p2, p3, _⟩ := HXp.out.cells
      obtain ⟨q0, q1, q2, q3, _⟩ := HXq.out.cells
      obtain ⟨z0, z1', z2', z3, f0, f1, f2, f3⟩ := (HXa1.out.below HB4.out).cells
      obtain ⟨v0, v1, v2, v3, g0, g1, g2, g3⟩ := (HXb1.out.below HB4.out).cells
      have hbs := HB1.out.trans (HB4.out.mono HB1.out.size)
      have hla := Nat.lt_of_lt_of_le HXa1.out.lt HB2.out.size
      have hlb := Nat.lt_of_lt_of_le HXb1.out.lt HB2.out.size
      have n1 : w2.heap.size ≠ w.heap.size + 1 := by omega
      have n2 : w2.heap.size ≠ w.heap.size + 1 + 1 := by omega
      have n3 : w3.heap.size ≠ w.heap.size + 1 := by omega
      have n4 : w3.heap.size ≠ w.heap.size + 1 + 1 := by omega
      have m1 : w.heap.size + 1 ≠ w2.heap.size := by omega
      have m3 : w.heap.size + 1 ≠ w3.heap.size := by omega
      go_region
      all_goals go_wp2
      all_goals exact bodyPost_ret (v := .tuple #[.agg #[.string s1, .int .i64 x1, .int .i64 y1, .int .i64 z1], .agg #[.string s2, .int .i64 x2, .int .i64 y2, .int .i64 z2], .bool true]) (by simp [results, Try.results63, go_sem, z0, z1', z2', z3, v0, v1, v2, v3]) rfl ⟨HYY.out, (below4 (below4 hbs (by omega)) (by omega)).drew⟩

end Go.Proofs.Yteiefngamccapaa
