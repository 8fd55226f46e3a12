/- The walks of the laws FnExactJoinChunks: the call returns true, and nothing that was there has changed. -/
import Derived.Test.YtgjkmcidapfblaaJn
import Derived.Test.YtgjkmcidapfblaaWk
import Derived.Deep.DeepCutAuto
namespace Go.Proofs.Ytgjkmcidapfblaa
open Go.RowKit Go.Deep

theorem ne_of {w0 W : World} {k : Nat} (hb : Below w0.heap.size w0 W) (hk : k < w0.heap.size) : W.heap.size ≠ k := by have := hb.size; omega

theorem hb_step {w0 W W' : World} (hb : Below w0.heap.size w0 W) (hba : Below W.heap.size W W') : Below w0.heap.size w0 W' := hb.trans (hba.mono hb.size)
theorem hb_astep {w0 W W' : World} {o : Obj} (hb : Below w0.heap.size w0 W) (hba : Below (W.alloc o).heap.size (W.alloc o) W') : Below w0.heap.size w0 W' := (hb.alloc hb.size o).trans (hba.mono (hb.alloc hb.size o).size)
theorem bx_nstep {W W' : World} {a b c d : Value} {t : TypeId} (hba : Below (W.alloc (.cells #[a, b, c, d] t)).heap.size (W.alloc (.cells #[a, b, c, d] t)) W') : Bx W' W.heap.size a b c d := (Bx.new W a b c d t).below hba

theorem Bx.drew {W : World} {g : Nat} {a b c d : Value} (h : Bx W g a b c d) : Bx W.drew g a b c d := h
theorem hb_dstep {W W' : World} {o : Obj} (hba : Below (W.alloc o).drew.heap.size (W.alloc o).drew W') : Below W.heap.size W W' := (((Below.refl W.heap.size W).alloc (Nat.le_refl _) o).drew).trans (hba.mono (by show W.heap.size ≤ (W.alloc o).heap.size; simp))
theorem bx_dstep {W W' : World} {a b c d : Value} {t : TypeId} (hba : Below (W.alloc (.cells #[a, b, c, d] t)).drew.heap.size (W.alloc (.cells #[a, b, c, d] t)).drew W') : Bx W' W.heap.size a b c d := (Bx.new W a b c d t).drew.below hba

theorem s8_of {W : World} {g h : Nat} {x0 x1 x2 x3 y0 y1 y2 y3 : Value} (hx : Bx W g x0 x1 x2 x3) (hy : Bx W h y0 y1 y2 y3) : (W.cell? ⟨g, 0, none⟩ = some x0 ∧ W.cell? ⟨g, 1, none⟩ = some x1 ∧ W.cell? ⟨g, 2, none⟩ = some x2 ∧ W.cell? ⟨g, 3, none⟩ = some x3) ∧ W.cell? ⟨h, 0, none⟩ = some y0 ∧ W.cell? ⟨h, 1, none⟩ = some y1 ∧ W.cell? ⟨h, 2, none⟩ = some y2 ∧ W.cell? ⟨h, 3, none⟩ = some y3 := by
  obtain ⟨a0, a1, a2, a3, _⟩ := hx.cells
  obtain ⟨b0, b1, b2, b3, _⟩ := hy.cells
  exact ⟨⟨a0, a1, a2, a3⟩, b0, b1, b2, b3⟩

set_option maxHeartbeats 8000000 in
set_option maxRecDepth 100000 in
theorem walk_fnExactJoinChunks (w : World) (s : ByteArray) (a b c : Int) (s' : ByteArray) (a' b' c' : Int) (hs : s.size ≤ maxLen) (hs' : s'.size ≤ maxLen) :
    Calls Try.prog 9 #[.agg #[.string s, .int .i64 a, .int .i64 b, .int .i64 c], .agg #[.string s', .int .i64 a', .int .i64 b', .int .i64 c']] w fun e w' => e = .returned (.bool true) ∧ Below w.heap.size w w' := by
  have HB0 := Lib.hid (((Below.refl w.heap.size w).alloc (Nat.le_refl _) (.cells #[.string s, .int .i64 a, .int .i64 b, .int .i64 c] 30)).alloc (by simp) (.cells #[.string s', .int .i64 a', .int .i64 b', .int .i64 c'] 30))
  have HX0 := Lib.hid ((Bx.new w (.string s) (.int .i64 a) (.int .i64 b) (.int .i64 c) 30).alloc (.cells #[.string s', .int .i64 a', .int .i64 b', .int .i64 c'] 30))
  have HY0 := Lib.hid (Bx.new (w.alloc (.cells #[.string s, .int .i64 a, .int .i64 b, .int .i64 c] 30)) (.string s') (.int .i64 a') (.int .i64 b') (.int .i64 c') 30)
  rw [World.size_alloc] at HY0
  go_enter Try.func9, Try.ntmps9
  go_wp2_with fail
  refine (sz53 s a b c hs 1048576 (by omega) (by omega) _).mono ?_
  rintro e w0 ⟨⟨r, rfl, hrl, hr⟩, hb0⟩
  have HB1 := Lib.hid (HB0.out.trans (hb0.mono HB0.out.size))
  have HX1 := Lib.hid (HX0.out.below hb0)
  have HY1 := Lib.hid (HY0.out.below hb0)
  clear hb0 HB0 HX0 HY0
  rcases hr with ⟨rfl, hbig⟩ | ⟨hr0, hsm⟩
  · go_wp2
    go_ret
    exact ⟨rfl, HB1.out⟩
  have hs1 : s.size ≤ 1048576 := by omega
  obtain ⟨y0, y1, y2, y3, _⟩ := HY1.out.cells
  go_wp2_with fail
  refine (sz53 s' a' b' c' hs' r hr0 hrl _).mono ?_
  rintro e w1 ⟨⟨r', rfl, hrl', hr'⟩, hb1⟩
  have HB2 := Lib.hid (HB1.out.trans (hb1.mono HB1.out.size))
  have HX2 := Lib.hid (HX1.out.below hb1)
  have HY2 := Lib.hid (HY1.out.below hb1)
  clear hb1 HB1 HX1 HY1 y0 y1 y2 y3
  rcases hr' with ⟨rfl, hbig⟩ | ⟨hr0', hsm'⟩
  · go_wp2
    go_ret
    exact ⟨rfl, HB2.out⟩
  have hs2 : s'.size ≤ 1048576 := by omega
  have HC1 := Lib.hid (fun W => join40 s a b c s' a' b' c' hs1 hs2 W)
  have HC2 := Lib.hid (fun W => join36 s a b c s' a' b' c' hs1 hs2 W)
  have HT1 := Lib.hid (fun W => to54 s a b c W)
  have HT2 := Lib.hid (fun W => to54 s' a' b' c' W)
  unfold JnEnd at HC1 HC2
  generalize jnB (s, a, b, c) (s', a', b', c') = g at HC1 HC2
  generalize jnC (s, a, b, c) (s', a', b', c') = p at HC1 HC2
  obtain ⟨p0, p1, p2, p3⟩ := p
  unfold chV at HC1 HC2
  simp only at HC1 HC2
  have hgg : (g != g) = false := by cases g <;> rfl
  clear hs hs' hs1 hs2 hsm hsm' hrl hrl' hr0
  have hlx := HX2.out.lt
  have hly : w.heap.size + 1 < w1.heap.size := HY2.out.lt
  have hb := (Below.refl w1.heap.size w1).drew
  go_upto_region 8 with fail
  go_cut [6, 7] (fun s6 s7 wx => ∃ p : Nat, s6 = .pointer (some ⟨p, 0, none⟩) ∧ s7 = .bool g ∧ Hid (Bx wx p (.string p0) (.int .i64 p1) (.int .i64 p2) (.int .i64 p3)) ∧ Hid (Below w1.heap.size w1 wx))
  case first =>
    go_region_held3 (fun w' => (w'.cell? ⟨w.heap.size, 0, none⟩ = some (.string s) ∧ w'.cell? ⟨w.heap.size, 1, none⟩ = some (.int .i64 a) ∧ w'.cell? ⟨w.heap.size, 2, none⟩ = some (.int .i64 b) ∧ w'.cell? ⟨w.heap.size, 3, none⟩ = some (.int .i64 c)) ∧ w'.cell? ⟨w.heap.size + 1, 0, none⟩ = some (.string s') ∧ w'.cell? ⟨w.heap.size + 1, 1, none⟩ = some (.int .i64 a') ∧ w'.cell? ⟨w.heap.size + 1, 2, none⟩ = some (.int .i64 b') ∧ w'.cell? ⟨w.heap.size + 1, 3, none⟩ = some (.int .i64 c')) (first | with_reducible exact s8_of (HX2.out.below hb) (HY2.out.below hb) | with_reducible exact s8_of ((HX2.out.below hb).alloc _) ((HY2.out.below hb).alloc _) | with_reducible exact s8_of (HX2.out.alloc _).drew (HY2.out.alloc _).drew | with_reducible exact s8_of HX2.out HY2.out | with_reducible exact s8_of (((HX2.out.below hb).alloc _).far4 (ne_of hb hlx)) (((HY2.out.below hb).alloc _).far4 (ne_of hb hly)) | with_reducible exact s8_of ((HX2.out.below hb).far4 hgx) ((HY2.out.below hb).far4 hgy) | (refine ⟨⟨?_, ?_, ?_, ?_⟩, ?_, ?_, ?_, ?_⟩ <;> go_keep)) (first | (go_at_call 18; (first | (refine Calls.mono (call_by (a' := #[.agg #[.string s, .int .i64 a, .int .i64 b, .int .i64 c]]) (by with_reducible rfl) (HT1.out _)) ?_) | (refine Calls.mono (call_by (a' := #[.agg #[.string s', .int .i64 a', .int .i64 b', .int .i64 c']]) (by with_reducible rfl) (HT2.out _)) ?_)); rintro e wa ⟨rfl, hba⟩; (first | (with_reducible have hp := hp.below hba; with_reducible have hb := hb_step hb hba) | (with_reducible have hb := hb_step hb hba) | (with_reducible have hp := bx_nstep hba; have hg := hb.size; have hgx := ne_of hb hlx; have hgy := ne_of hb hly; with_reducible have hb := hb_astep hb hba) | (with_reducible have hp := bx_dstep hba; have hg := Nat.le_refl w1.heap.size; have hgx := Nat.ne_of_gt hlx; have hgy := Nat.ne_of_gt hly; with_reducible have hb := hb_dstep hba)); clear hba) | (go_at_call 32; refine (HC1.out _).mono ?_; rintro e wa ⟨rfl, hba⟩; (first | (with_reducible have hp := hp.below hba; with_reducible have hb := hb_step hb hba) | (with_reducible have hb := hb_step hb hba) | (with_reducible have hp := bx_nstep hba; have hg := hb.size; have hgx := ne_of hb hlx; have hgy := ne_of hb hly; with_reducible have hb := hb_astep hb hba) | (with_reducible have hp := bx_dstep hba; have hg := Nat.le_refl w1.heap.size; have hgx := Nat.ne_of_gt hlx; have hgy := Nat.ne_of_gt hly; with_reducible have hb := hb_dstep hba)); clear hba; (try obtain ⟨z0, z1', z2', z3, f0, f1, f2, f3⟩ := hp.cells)))
    all_goals
      go_wp2_with fail
      go_meet
      first
        | exact ⟨_, rfl, rfl, Lib.hid hp.set4, Lib.hid (below4 hb (by first | exact hg | exact Nat.le_refl _))⟩
        | exact ⟨_, rfl, rfl, Lib.hid (Bx.new _ _ _ _ _ 33), Lib.hid (hb.alloc hb.size _)⟩
  case rest =>
    obtain ⟨p, rfl, rfl, HP, HW⟩ := hcut
    have HB3 := Lib.hid (HB2.out.trans (HW.out.mono HB2.out.size))
    have HX3 := Lib.hid (HX2.out.below HW.out)
    have HY3 := Lib.hid (HY2.out.below HW.out)
    clear HW HB2 HX2 HY2
    have hlx := HX3.out.lt
    have hly : w.heap.size + 1 < wc.heap.size := HY3.out.lt
    have hb := (Below.refl wc.heap.size wc).drew
    go_upto_region 9 with fail
    go_cut [8, 9] (fun s6 s7 wx => ∃ p : Nat, s6 = .pointer (some ⟨p, 0, none⟩) ∧ s7 = .bool g ∧ Hid (Bx wx p (.string p0) (.int .i64 p1) (.int .i64 p2) (.int .i64 p3)) ∧ Hid (Below wc.heap.size wc wx))
    case first =>
      go_region_held3 (fun w' => (w'.cell? ⟨w.heap.size, 0, none⟩ = some (.string s) ∧ w'.cell? ⟨w.heap.size, 1, none⟩ = some (.int .i64 a) ∧ w'.cell? ⟨w.heap.size, 2, none⟩ = some (.int .i64 b) ∧ w'.cell? ⟨w.heap.size, 3, none⟩ = some (.int .i64 c)) ∧ w'.cell? ⟨w.heap.size + 1, 0, none⟩ = some (.string s') ∧ w'.cell? ⟨w.heap.size + 1, 1, none⟩ = some (.int .i64 a') ∧ w'.cell? ⟨w.heap.size + 1, 2, none⟩ = some (.int .i64 b') ∧ w'.cell? ⟨w.heap.size + 1, 3, none⟩ = some (.int .i64 c')) (first | with_reducible exact s8_of (HX3.out.below hb) (HY3.out.below hb) | with_reducible exact s8_of ((HX3.out.below hb).alloc _) ((HY3.out.below hb).alloc _) | with_reducible exact s8_of (HX3.out.alloc _).drew (HY3.out.alloc _).drew | with_reducible exact s8_of HX3.out HY3.out | with_reducible exact s8_of (((HX3.out.below hb).alloc _).far4 (ne_of hb hlx)) (((HY3.out.below hb).alloc _).far4 (ne_of hb hly)) | with_reducible exact s8_of ((HX3.out.below hb).far4 hgx) ((HY3.out.below hb).far4 hgy) | (refine ⟨⟨?_, ?_, ?_, ?_⟩, ?_, ?_, ?_, ?_⟩ <;> go_keep)) (first | (go_at_call 18; (first | (refine Calls.mono (call_by (a' := #[.agg #[.string s, .int .i64 a, .int .i64 b, .int .i64 c]]) (by with_reducible rfl) (HT1.out _)) ?_) | (refine Calls.mono (call_by (a' := #[.agg #[.string s', .int .i64 a', .int .i64 b', .int .i64 c']]) (by with_reducible rfl) (HT2.out _)) ?_)); rintro e wa ⟨rfl, hba⟩; (first | (with_reducible have hp := hp.below hba; with_reducible have hb := hb_step hb hba) | (with_reducible have hb := hb_step hb hba) | (with_reducible have hp := bx_nstep hba; have hg := hb.size; have hgx := ne_of hb hlx; have hgy := ne_of hb hly; with_reducible have hb := hb_astep hb hba) | (with_reducible have hp := bx_dstep hba; have hg := Nat.le_refl wc.heap.size; have hgx := Nat.ne_of_gt hlx; have hgy := Nat.ne_of_gt hly; with_reducible have hb := hb_dstep hba)); clear hba) | (go_at_call 33; refine (HC2.out _).mono ?_; rintro e wa ⟨rfl, hba⟩; (first | (with_reducible have hp := hp.below hba; with_reducible have hb := hb_step hb hba) | (with_reducible have hb := hb_step hb hba) | (with_reducible have hp := bx_nstep hba; have hg := hb.size; have hgx := ne_of hb hlx; have hgy := ne_of hb hly; with_reducible have hb := hb_astep hb hba) | (with_reducible have hp := bx_dstep hba; have hg := Nat.le_refl wc.heap.size; have hgx := Nat.ne_of_gt hlx; have hgy := Nat.ne_of_gt hly; with_reducible have hb := hb_dstep hba)); clear hba; (try obtain ⟨z0, z1', z2', z3, f0, f1, f2, f3⟩ := hp.cells)))
      all_goals
        go_wp2_with fail
        go_meet
        first
          | exact ⟨_, rfl, rfl, Lib.hid hp.set4, Lib.hid (below4 hb (by first | exact hg | exact Nat.le_refl _))⟩
          | exact ⟨_, rfl, rfl, Lib.hid (Bx.new _ _ _ _ _ 33), Lib.hid (hb.alloc hb.size _)⟩
    case rest =>
      obtain ⟨p', rfl, rfl, HP', HW'⟩ := hcut
      have HB4 := Lib.hid (HB3.out.trans (HW'.out.mono HB3.out.size))
      obtain ⟨d0, d1, d2, d3, _⟩ := (HP.out.below HW'.out).cells
      obtain ⟨e0, e1, e2, e3, _⟩ := HP'.out.cells
      go_wp2_with fail
      refine (eq56 p0 p1 p2 p3 _).mono ?_
      rintro e w5 ⟨rfl, hb5⟩
      have HB5 := Lib.hid (HB4.out.trans (hb5.mono HB4.out.size))
      clear hb5
      go_wp2
      go_ret
      exact ⟨rfl, HB5.out⟩
end Go.Proofs.Ytgjkmcidapfblaa
