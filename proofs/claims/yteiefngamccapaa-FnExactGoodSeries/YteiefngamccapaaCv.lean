/- Contract of CutAt in the model, over this seat's translation. -/
import Derived.Test.YteiefngamccapaaCm
namespace Go.Proofs.Yteiefngamccapaa
open Go.RowKit Go.Deep

theorem call_by {P : Program} {f : FuncId} {a a' : Array Value} {W : World} {Q : Ending → World → Prop} (h : a = a') (hc : Calls P f a' W Q) : Calls P f a W Q := h ▸ hc
set_option maxHeartbeats 4000000 in
set_option maxRecDepth 100000 in
theorem cut34 (s : ByteArray) (c1 c2 c3 t : Int) (hs : s.size ≤ 1048576) (w : World) : Calls Try.prog 86 #[.agg #[.string s, .int .i64 c1, .int .i64 c2, .int .i64 c3], .int .i64 t] w (CtEnd (s, c1, c2, c3) t w) := by
  have HB0 := Lib.hid ((((Below.refl w.heap.size w).alloc (Nat.le_refl _) (.cells #[.string s, .int .i64 c1, .int .i64 c2, .int .i64 c3] 85)).alloc (by simp) (.cells #[zS, zI, zI, zI] 85)).alloc (by simp; omega) (.cells #[zS, zI, zI, zI] 85))
  have HXa := Lib.hid ((Bx.new (w.alloc (.cells #[.string s, .int .i64 c1, .int .i64 c2, .int .i64 c3] 85)) zS zI zI zI 85).alloc (.cells #[zS, zI, zI, zI] 85))
  have HXb := Lib.hid (Bx.new ((w.alloc (.cells #[.string s, .int .i64 c1, .int .i64 c2, .int .i64 c3] 85)).alloc (.cells #[zS, zI, zI, zI] 85)) zS zI zI zI 85)
  simp only [World.size_alloc] at HXa HXb
  have HX0 := Lib.hid (((Bx.new w (.string s) (.int .i64 c1) (.int .i64 c2) (.int .i64 c3) 85).alloc (.cells #[zS, zI, zI, zI] 85)).alloc (.cells #[zS, zI, zI, zI] 85))
  have HC := Lib.hid (fun W => good81 s c1 c2 c3 hs W)
  unfold GdEnd at HC
  unfold CtEnd
  by_cases hg : soB (s, c1, c2, c3) = true
  case neg =>
    have hg : soB (s, c1, c2, c3) = false := by simpa using hg
    have HN := Lib.hid (ct_no (t := t) hg)
    rw [hg] at HC
    clear hg
    go_enter Try.func86, Try.ntmps86
    go_wp2_with fail
    refine (HC.out _).mono ?_
    rintro e w1 ⟨rfl, hb1⟩
    have hbs := HB0.out.trans (hb1.mono HB0.out.size)
    obtain ⟨z0, z1, z2, z3, f0, f1, f2, f3⟩ := (HXa.out.below hb1).cells
    obtain ⟨v0, v1, v2, v3, g0, g1, g2, g3⟩ := (HXb.out.below hb1).cells
    clear hb1
    go_wp2
    exact bodyPost_ret (v := .tuple #[.agg #[zS, zI, zI, zI], .agg #[zS, zI, zI, zI], .bool false]) (by simp [results, Try.results86, go_sem, z0, z1, z2, z3, v0, v1, v2, v3]) rfl ⟨HN.out, below4 (below4 hbs (by omega)) (by omega)⟩
  have HI := Lib.hid (so_is hg)
  have HCT := Lib.hid (fun (k : Nat) (p q : Chk) => ct_yes (c := (s, c1, c2, c3)) (t := t) (k := k) (p := p) (q := q) hg)
  have HPK := Lib.hid HI.out.2.1
  have HFit := Lib.hid HI.out.1
  have h8 := HI.out.len
  rw [hg] at HC
  clear hg
  generalize soL (s, c1, c2, c3) = l at HI HCT HPK HFit h8
  go_enter Try.func86, Try.ntmps86
  go_wp2_with fail
  refine (HC.out _).mono ?_
  rintro e w0 ⟨rfl, hb1⟩
  have HB00 := Lib.hid (HB0.out.trans (hb1.mono HB0.out.size))
  have HXa0 := Lib.hid (HXa.out.below hb1)
  have HXb0 := Lib.hid (HXb.out.below hb1)
  obtain ⟨o0, o1, o2, o3, _⟩ := (HX0.out.below hb1).cells
  clear hb1 HB0 HXa HXb HC HX0
  go_wp2_with fail
  refine (take82 s c1 c2 c3 hs _).mono ?_
  rintro e w1 ⟨⟨ao, n, cp, rfl, hn60, hn⟩ | ⟨xs, ao, cp, hF, h60, rfl, ho, hgg⟩, hb1⟩
  · exact absurd HI.out (hn _)
  obtain rfl := hgg _ HI.out
  have hcp := own_len ho
  have HS1 := Lib.hid (SRow.of_own ho).2
  have HB1 := Lib.hid (HB00.out.trans (hb1.mono HB00.out.size))
  have HXa1 := Lib.hid (HXa0.out.below hb1)
  have HXb1 := Lib.hid (HXb0.out.below hb1)
  clear ho hb1 HB00 HXa0 HXb0 HI hgg hF h60 o0 o1 o2 o3
  go_wp2
  go_loopw [9] (fun i wr => ∃ k : Nat, k ≤ l.length ∧ i = .int .i64 k ∧ wr = w1 ∧ Hid (CK l t k)) (fun i _ => l.length - (intOf i).toNat)
  case atStart => exact ⟨0, Nat.zero_le _, rfl, rfl, Lib.hid (ck_zero l t)⟩
  case round =>
    obtain ⟨k, hle, rfl, rfl, hK⟩ := hrel
    by_cases hlt : k < l.length
    · obtain ⟨b, off, rfl, hbl, hc⟩ := HS1.out.tv (by omega)
      have c0 := (hc k hlt).1
      have HTk := Lib.hid (fun h : tF l k < t => ck_succ hK.out hlt h)
      have HTn := Lib.hid (fun h : t ≤ tF l k => ck_is hK.out (.inr h))
      generalize tF l k = x at c0 HTk HTn
      clear hc
      by_cases hx : x < t
      · have HT2 := Lib.hid (HTk.out hx)
        go_wp2
        go_roundw
        case rel => exact ⟨k + 1, by omega, by go_num, by trivial, HT2⟩
        case measure => simp [intOf]; omega
      have HKK := Lib.hid (HTn.out (by omega))
      obtain ⟨ao1, ao2, hs1, hs2, hsr⟩ := cut_slices (some ⟨b, off, none⟩) l k cp hle hcp
      obtain ⟨hR1, hR2⟩ := hsr _ _ HS1.out
      have HR2 := Lib.hid (fun (W : World) (hb : Below wr.heap.size wr W) => hR2.after hb)
      have HR1 := Lib.hid (fun (W : World) (hb : Below wr.heap.size wr W) => hR1.after hb)
      have hl1 : (l.take k).length = k := by rw [List.length_take]; omega
      have hl2 : (l.drop k).length = l.length - k := List.length_drop
      have HP1 := Lib.hid (fun W hW => pack77 ao1 cp (l.take k) (HFit.out.take k) (by omega) W hW)
      have HP2 := Lib.hid (fun W hW => pack77 ao2 (cp - k) (l.drop k) (HFit.out.drop k) (by omega) W hW)
      rw [hl1] at HP1
      rw [hl2] at HP2
      have HY := Lib.hid (fun (p q : Chk) => HCT.out k p q HKK.out)
      clear hR1 hR2 hsr hl1 hl2
      obtain ⟨p, hp⟩ : ∃ p, p = pkC (l.take k) := ⟨_, rfl⟩
      obtain ⟨q, hq⟩ : ∃ q, q = pkC (l.drop k) := ⟨_, rfl⟩
      have HYY := Lib.hid (HY.out p q hp hq)
      rw [← hp] at HP1
      rw [← hq] at HP2
      clear hp hq HY
      obtain ⟨s1, x1, y1, z1⟩ := p
      obtain ⟨s2, x2, y2, z2⟩ := q
      unfold chV at HP1 HP2
      simp only at HP1 HP2
      obtain ⟨m, hm⟩ : ∃ m, m = l.length - k := ⟨_, rfl⟩
      obtain ⟨d, hd⟩ : ∃ d, d = cp - k := ⟨_, rfl⟩
      rw [← hm, ← hd] at HP2 hs2
      clear hm hd
      go_wp2_with fail
      go_region_held3 (fun _ => True) (trivial) (first | (go_at_call 89; (first | (refine Calls.mono (call_by (a' := #[.slice ao1 k cp]) (by with_reducible rfl) (HP1.out _ (HR1.out _ (by first | exact hb | exact (Below.refl _ _).drew)))) ?_) | (refine Calls.mono (call_by (a' := #[.slice ao2 m d]) (by with_reducible rfl) (HP2.out _ (HR2.out _ (by first | exact hb | exact (Below.refl _ _).drew)))) ?_)); rintro e wa ⟨rfl, hba⟩; (first | (have hb := hb.trans (hba.mono hb.size)) | (have hb := (Below.refl wr.heap.size wr).drew.trans hba)); clear hba; obtain ⟨z0, z1', z2', z3, f0, f1, f2, f3⟩ := (HXa1.out.below hb).cells; obtain ⟨v0, v1, v2, v3, g0, g1, g2, g3⟩ := (HXb1.out.below hb).cells))
      all_goals have hbs := HB1.out.trans (hb.mono HB1.out.size)
      all_goals go_wp2
      all_goals exact bodyPost_ret (v := .tuple #[.agg #[.string s1, .int .i64 x1, .int .i64 y1, .int .i64 z1], .agg #[.string s2, .int .i64 x2, .int .i64 y2, .int .i64 z2], .bool true]) (by simp [results, Try.results86, go_sem, z0, z1', z2', z3, v0, v1, v2, v3]) rfl ⟨HYY.out, below4 (below4 hbs (by omega)) (by omega)⟩
    · have HKK := Lib.hid (ck_is hK.out (.inl (by omega)))
      obtain ⟨ao1, ao2, hs1, hs2, hsr⟩ := cut_slices ao l k cp hle hcp
      obtain ⟨hR1, hR2⟩ := hsr _ _ HS1.out
      have HR2 := Lib.hid (fun (W : World) (hb : Below wr.heap.size wr W) => hR2.after hb)
      have HR1 := Lib.hid (fun (W : World) (hb : Below wr.heap.size wr W) => hR1.after hb)
      have hl1 : (l.take k).length = k := by rw [List.length_take]; omega
      have hl2 : (l.drop k).length = l.length - k := List.length_drop
      have HP1 := Lib.hid (fun W hW => pack77 ao1 cp (l.take k) (HFit.out.take k) (by omega) W hW)
      have HP2 := Lib.hid (fun W hW => pack77 ao2 (cp - k) (l.drop k) (HFit.out.drop k) (by omega) W hW)
      rw [hl1] at HP1
      rw [hl2] at HP2
      have HY := Lib.hid (fun (p q : Chk) => HCT.out k p q HKK.out)
      clear hR1 hR2 hsr hl1 hl2
      obtain ⟨p, hp⟩ : ∃ p, p = pkC (l.take k) := ⟨_, rfl⟩
      obtain ⟨q, hq⟩ : ∃ q, q = pkC (l.drop k) := ⟨_, rfl⟩
      have HYY := Lib.hid (HY.out p q hp hq)
      rw [← hp] at HP1
      rw [← hq] at HP2
      clear hp hq HY
      obtain ⟨s1, x1, y1, z1⟩ := p
      obtain ⟨s2, x2, y2, z2⟩ := q
      unfold chV at HP1 HP2
      simp only at HP1 HP2
      obtain ⟨m, hm⟩ : ∃ m, m = l.length - k := ⟨_, rfl⟩
      obtain ⟨d, hd⟩ : ∃ d, d = cp - k := ⟨_, rfl⟩
      rw [← hm, ← hd] at HP2 hs2
      clear hm hd
      go_wp2_with fail
      go_region_held3 (fun _ => True) (trivial) (first | (go_at_call 89; (first | (refine Calls.mono (call_by (a' := #[.slice ao1 k cp]) (by with_reducible rfl) (HP1.out _ (HR1.out _ (by first | exact hb | exact (Below.refl _ _).drew)))) ?_) | (refine Calls.mono (call_by (a' := #[.slice ao2 m d]) (by with_reducible rfl) (HP2.out _ (HR2.out _ (by first | exact hb | exact (Below.refl _ _).drew)))) ?_)); rintro e wa ⟨rfl, hba⟩; (first | (have hb := hb.trans (hba.mono hb.size)) | (have hb := (Below.refl wr.heap.size wr).drew.trans hba)); clear hba; obtain ⟨z0, z1', z2', z3, f0, f1, f2, f3⟩ := (HXa1.out.below hb).cells; obtain ⟨v0, v1, v2, v3, g0, g1, g2, g3⟩ := (HXb1.out.below hb).cells))
      all_goals have hbs := HB1.out.trans (hb.mono HB1.out.size)
      all_goals go_wp2
      all_goals exact bodyPost_ret (v := .tuple #[.agg #[.string s1, .int .i64 x1, .int .i64 y1, .int .i64 z1], .agg #[.string s2, .int .i64 x2, .int .i64 y2, .int .i64 z2], .bool true]) (by simp [results, Try.results86, go_sem, z0, z1', z2', z3, v0, v1, v2, v3]) rfl ⟨HYY.out, below4 (below4 hbs (by omega)) (by omega)⟩

end Go.Proofs.Yteiefngamccapaa
