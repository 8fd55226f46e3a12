/- Contract of AddSample in the model, over this seat's translation. -/
import Derived.Test.YteiefngamccapaaK15
namespace Go.Proofs.Yteiefngamccapaa
open Go.RowKit Go.Deep

set_option maxHeartbeats 4000000 in
set_option maxRecDepth 100000 in
theorem add38 (s : ByteArray) (c1 c2 c3 : Int) (t : Int) (v : Nat) (hx : FitS [(t, v)]) (hs : s.size ≤ 1048576) (w : World) :
    Calls Try.prog 80 #[.agg #[.string s, .int .i64 c1, .int .i64 c2, .int .i64 c3], .agg #[.int .i64 t, .float .f64 v]] w (AdEnd (s, c1, c2, c3) (t, v) w) := by
  have hst := @run_store_float Try.prog
  have HB0 := Lib.hid ((((Below.refl w.heap.size w).alloc (Nat.le_refl _) (.cells #[.string s, .int .i64 c1, .int .i64 c2, .int .i64 c3] 85)).alloc (by simp) (.cells #[.int .i64 t, .float .f64 v] 42)).alloc (by simp; omega) (.cells #[zS, zI, zI, zI] 85))
  have HXc := Lib.hid (((Bx.new w (.string s) (.int .i64 c1) (.int .i64 c2) (.int .i64 c3) 85).alloc (.cells #[.int .i64 t, .float .f64 v] 42)).alloc (.cells #[zS, zI, zI, zI] 85))
  have HXr := Lib.hid (Bx.new ((w.alloc (.cells #[.string s, .int .i64 c1, .int .i64 c2, .int .i64 c3] 85)).alloc (.cells #[.int .i64 t, .float .f64 v] 42)) zS zI zI zI 85)
  simp only [World.size_alloc] at HXr
  have HT : Hid (((((w.alloc (.cells #[.string s, .int .i64 c1, .int .i64 c2, .int .i64 c3] 85)).alloc (.cells #[.int .i64 t, .float .f64 v] 42)).alloc (.cells #[zS, zI, zI, zI] 85))).heap[w.heap.size + 1]? = some (.cells #[.int .i64 t, .float .f64 v] 42)) := Lib.hid (by
    have h := World.alloc_heap_new (w.alloc (.cells #[.string s, .int .i64 c1, .int .i64 c2, .int .i64 c3] 85)) (.cells #[.int .i64 t, .float .f64 v] 42)
    rw [World.size_alloc] at h
    exact (Below.heap_alloc _ _ _ (by simp)).trans h)
  have HC := Lib.hid (fun W => good81 s c1 c2 c3 hs W)
  unfold GdEnd at HC
  unfold AdEnd
  by_cases hc : soB (s, c1, c2, c3) = true
  case neg =>
    have hc : soB (s, c1, c2, c3) = false := by simpa using hc
    have HN := Lib.hid (ad_no (ad_no1 (x := (t, v)) hc))
    rw [hc] at HC
    clear hc HXc
    go_enter Try.func80, Try.ntmps80
    go_wp2_with fail
    refine (HC.out _).mono ?_
    rintro e w1 ⟨rfl, hb1⟩
    have hbs := HB0.out.trans (hb1.mono HB0.out.size)
    obtain ⟨z0, z1, z2, z3, f0, f1, f2, f3⟩ := (HXr.out.below hb1).cells
    clear hb1
    go_wp2
    exact bodyPost_ret (v := .tuple #[.agg #[zS, zI, zI, zI], .bool false]) (by simp [results, Try.results80, go_sem, z0, z1, z2, z3]) rfl ⟨HN.out, below4 hbs (by omega)⟩
  have HY := Lib.hid (ad_pk (x := (t, v)) hc)
  have HIc := Lib.hid (so_is hc)
  have hn1 := (so_is hc).len
  rw [hc] at HC
  clear hc
  generalize soL (s, c1, c2, c3) = x at HY HIc hn1
  have HPk := Lib.hid (fun ao c W h => pack24 ao c (x ++ [(t, v)]) (HIc.out.1.append hx) (by rw [List.length_append]; simp; omega) W h)
  unfold PkEnd at HPk
  generalize pkR (x ++ [(t, v)]) = q at HPk HY
  generalize pkB (x ++ [(t, v)]) = pb at HPk HY
  obtain ⟨s', d1, d2, d3⟩ := q
  unfold chV at HPk
  simp only at HPk
  rw [List.length_append, List.length_singleton] at HPk
  obtain ⟨i0, hi, hz0, hz1, hz2⟩ := info_parts Try.info42
  go_enter Try.func80, Try.ntmps80
  go_wp2_with fail
  refine (HC.out _).mono ?_
  rintro e w1 ⟨rfl, hb1⟩
  have HB1 := Lib.hid (HB0.out.trans (hb1.mono HB0.out.size))
  have HR1 := Lib.hid (HXr.out.below hb1)
  have HT1 := Lib.hid ((hb1.block _ (Array.getElem?_eq_some_iff.1 HT.out).1).trans HT.out)
  have HR1x := HR1.out.lt
  obtain ⟨y0, y1, y2, y3, _⟩ := (HXc.out.below hb1).cells
  clear hb1 HXr HXc HB0 HT
  go_wp2_with fail
  refine (take82 s c1 c2 c3 hs _).mono ?_
  rintro e w3 ⟨⟨ao, n, cp, rfl, hn60, hn⟩ | ⟨xs, ao, cp, hF, h60, rfl, ho, hgg⟩, hb3⟩
  · exact absurd HIc.out (hn _)
  obtain rfl := hgg _ HIc.out
  have HO3 := Lib.hid ho
  have hs3 := hb3.size
  have HB3 := Lib.hid (HB1.out.trans (hb3.mono HB1.out.size))
  have HR3 := Lib.hid (HR1.out.below hb3)
  have HT3 := (hb3.block _ (Array.getElem?_eq_some_iff.1 HT1.out).1).trans HT1.out
  have u0 : w3.cell? ⟨w.heap.size + 1, 0, none⟩ = some (.int .i64 t) := by simp [World.cell?, HT3]
  have u1 : w3.cell? ⟨w.heap.size + 1, 1, none⟩ = some (.float .f64 v) := by simp [World.cell?, HT3]
  clear hb3 ho hgg hF h60 HR1 HT1 HT3 y0 y1 y2 y3
  go_wp2_with (at_builtin; refine wpList_append_own _ rfl _ _ 50 rfl w1.heap.size 42 i0 (.agg #[.int .i64 0, .float .f64 0]) 2 16 Try.underlying50 hi hz0 hz1 hz2 rfl (by decide) _ _ _ rfl (HO3.out.alloc _) ⟨w3.heap.size, 0, none⟩ 1 1 [.int .i64 t, .float .f64 v] rfl rfl new_two ?k2 ?k3 ?k4 ?k5 ?_)
  case k2 => intro u hu; simp at hu; rcases hu with rfl | rfl <;> rfl
  case k3 => unfold maxLen; omega
  case k4 => omega
  case k5 => simp; omega
  intro v' w5 hown' hgrow _
  have hB1s := HB1.out.size
  obtain ⟨go, k, rfl⟩ := own_slice hown'
  have HS5 : Hid (SRow w5 w5.heap.size (go) (x ++ [(t, v)])) := Lib.hid (by
    have h : w5.ownsRow w1.heap.size 42 2 (.slice go (x.length + 1) k) (x.length + 1) (cellsS (x ++ [(t, v)])) := by rw [cellsS_append]; exact hown'
    exact (SRow.of_own h).2)
  have HB5 : Hid (Below w.heap.size w w5) := Lib.hid (own_grown (HB3.out.alloc HB3.out.size _) (HO3.out.alloc _) hgrow hB1s)
  have HR5 : Hid (Bx w5 (w.heap.size + 1 + 1) zS zI zI zI) := Lib.hid (by
    obtain ⟨ty, hx⟩ := HR3.out
    refine ⟨ty, ?_⟩
    have hlt := (Array.getElem?_eq_some_iff.1 hx).1
    rw [hgrow.block _ (by simp; omega) (fun e => by have := (HO3.out.lt _ e.symm).1; omega)]
    exact (Below.heap_alloc _ _ _ hlt).trans hx)
  clear hown' hgrow HO3 HB3 HR3 u0 u1
  go_wp2_with fail
  refine (HPk.out go k _ HS5.out).mono ?_
  rintro e w6 ⟨rfl, hb6⟩
  have hbs := HB5.out.trans (hb6.mono HB5.out.size)
  obtain ⟨z0, z1, z2, z3, f0, f1, f2, f3⟩ := (HR5.out.below hb6).cells
  clear hb6
  go_wp2
  exact bodyPost_ret (v := .tuple #[.agg #[.string s', .int .i64 d1, .int .i64 d2, .int .i64 d3], .bool pb]) (by simp [results, Try.results80, go_sem, z0, z1, z2, z3]) rfl ⟨HY.out, below4 hbs (by omega)⟩
end Go.Proofs.Yteiefngamccapaa
