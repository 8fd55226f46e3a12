/- The walk of the law FnExactPutSample: the call returns true, and nothing that was there has changed. -/
import Derived.Test.YteiefngamccapaaPs6
import Derived.Deep.DeepCutAuto
namespace Go.Proofs.Yteiefngamccapaa
open Go.RowKit Go.Deep

theorem ne_of {w0 W : World} {k : Nat} (hb : Below w0.heap.size w0 W) (hk : k < w0.heap.size) : W.heap.size ≠ k := by have := hb.size; omega
theorem hb_step {w0 W W' : World} (hb : Below w0.heap.size w0 W) (hba : Below W.heap.size W W') : Below w0.heap.size w0 W' := hb.trans (hba.mono hb.size)
theorem hb_astep {w0 W W' : World} {o : Obj} (hb : Below w0.heap.size w0 W) (hba : Below (W.alloc o).heap.size (W.alloc o) W') : Below w0.heap.size w0 W' := (hb.alloc hb.size o).trans (hba.mono (hb.alloc hb.size o).size)
theorem hb_dstep {W W' : World} {o : Obj} (hba : Below (W.alloc o).drew.heap.size (W.alloc o).drew W') : Below W.heap.size W W' := (((Below.refl W.heap.size W).alloc (Nat.le_refl _) o).drew).trans (hba.mono (by show W.heap.size ≤ (W.alloc o).heap.size; simp))
theorem bt_nstep {W W' : World} {a b : Value} {t : TypeId} (hba : Below (W.alloc (.cells #[a, b] t)).heap.size (W.alloc (.cells #[a, b] t)) W') : Bt W' W.heap.size a b := (Bt.new W a b t).below hba
theorem bt_dstep {W W' : World} {a b : Value} {t : TypeId} (hba : Below (W.alloc (.cells #[a, b] t)).drew.heap.size (W.alloc (.cells #[a, b] t)).drew W') : Bt W' W.heap.size a b := (Bt.drew (Bt.new W a b t)).below hba
theorem le_adrew (W : World) (o : Obj) : W.heap.size ≤ (W.alloc o).drew.heap.size := by show W.heap.size ≤ (W.alloc o).heap.size; simp
theorem Bt.far2 {w : World} {g h : Nat} {a b a1 a2 : Value} (hx : Bt w h a b) (hne : g ≠ h) : Bt ((w.setCell ⟨g, 0, none⟩ a1).setCell ⟨g, 1, none⟩ a2) h a b := (hx.far1 (Ne.symm hne)).far1 (Ne.symm hne)
theorem Bt.set2 {w : World} {g : Nat} {a b a1 a2 : Value} (hx : Bt w g a b) : Bt ((w.setCell ⟨g, 0, none⟩ a1).setCell ⟨g, 1, none⟩ a2) g a1 a2 := by
  obtain ⟨t, h⟩ := hx
  exact ⟨t, set_at (i := 1) (v := a2) (set_at (i := 0) (v := a1) h)⟩
theorem s4_of {W : World} {g h : Nat} {x0 x1 y0 y1 : Value} (hx : Bt W g x0 x1) (hy : Bt W h y0 y1) : (W.cell? ⟨g, 0, none⟩ = some x0 ∧ W.cell? ⟨g, 1, none⟩ = some x1) ∧ W.cell? ⟨h, 0, none⟩ = some y0 ∧ W.cell? ⟨h, 1, none⟩ = some y1 := by
  obtain ⟨a0, a1, _⟩ := hx.cells
  obtain ⟨b0, b1, _⟩ := hy.cells
  exact ⟨⟨a0, a1⟩, b0, b1⟩
theorem ne_own {W w' : World} {p n k s : Nat} {e : TypeId} {o : Option Addr} {xs : List Value} {z0 z1 : Value} (hp : Bt W p z0 z1) (ho : w'.ownsRow W.heap.size e s (.slice o n k) n xs) : (Value.slice o n k).ownBlock ≠ some p := fun h => by
  have h1 := (ho.lt p h).1
  have h2 := hp.lt
  omega
theorem ne_own2 {W w' : World} {n k s : Nat} {e : TypeId} {o : Option Addr} {xs : List Value} {ob : Obj} (ho : w'.ownsRow (W.alloc ob).heap.size e s (.slice o n k) n xs) : (Value.slice o n k).ownBlock ≠ some W.heap.size := fun h => by
  have h1 := (ho.lt _ h).1
  simp at h1
  omega
theorem ne_own3 {W w' : World} {n k s : Nat} {e : TypeId} {o : Option Addr} {xs : List Value} {ob : Obj} (ho : w'.ownsRow (W.alloc ob).drew.heap.size e s (.slice o n k) n xs) : (Value.slice o n k).ownBlock ≠ some W.heap.size := ne_own2 (W := W) (ob := ob) ho
/-- What a put's answer leaves in a law: the series in a box, its chunks in a row of the call's own. -/
def PsS (W0 : World) (y : List Chk) (f : Int) (p : Nat) (o : Option Addr) (k : Nat) (wx : World) : Prop :=
  wx.ownsRow W0.heap.size 85 4 (.slice o y.length k) y.length (cellsG cC y) ∧ Bt wx p (.slice o y.length k) (.int .i64 f) ∧ (Value.slice o y.length k).ownBlock ≠ some p ∧ W0.heap.size ≤ p ∧ Below W0.heap.size W0 wx
theorem ps_A {W0 wa : World} {y : List Chk} {f : Int} {o : Option Addr} {k : Nat} {t : TypeId} (ho : wa.ownsRow W0.heap.size 85 4 (.slice o y.length k) y.length (cellsG cC y)) (hb : Below W0.heap.size W0 wa) : PsS W0 y f wa.heap.size o k (wa.alloc (.cells #[.slice o y.length k, .int .i64 f] t)) :=
  ⟨ho.alloc _, Bt.new wa _ _ t, fun e => Nat.lt_irrefl _ (ho.lt _ e).2, hb.size, hb.alloc hb.size _⟩
theorem ps_B {W0 wa : World} {y : List Chk} {f : Int} {p : Nat} {o : Option Addr} {k : Nat} {z0 z1 : Value} (hp : Bt wa p z0 z1) (hvp : (Value.slice o y.length k).ownBlock ≠ some p) (ho : wa.ownsRow W0.heap.size 85 4 (.slice o y.length k) y.length (cellsG cC y)) (hg : W0.heap.size ≤ p) (hb : Below W0.heap.size W0 wa) : PsS W0 y f p o k ((wa.setCell ⟨p, 0, none⟩ (.slice o y.length k)).setCell ⟨p, 1, none⟩ (.int .i64 f)) :=
  ⟨own_put (own_put ho hvp) hvp, hp.set2, hvp, hg, set2_belowT hb hg⟩

set_option maxHeartbeats 8000000 in
set_option maxRecDepth 100000 in
theorem walk_fnExactPutSample (w : World) (ao : Option Addr) (cap : Nat) (l : List Chk) (fl : Int) (t : Int) (v : Nat) (hl : l.length ≤ maxLen ∧ FitC l maxLen ∧ CRow w w.heap.size ao l) (hxs : In64 t ∧ v < 18446744073709551616) :
    Calls Try.prog 5 #[.agg #[.slice ao l.length cap, .int .i64 fl], .agg #[.int .i64 t, .float .f64 v]] w fun e w' => e = .returned (.bool true) ∧ Below w.heap.size w w' := by
  have hst := @run_store_float Try.prog
  obtain ⟨hn, hF, h⟩ := hl
  have HB0 := Lib.hid (((Below.refl w.heap.size w).alloc (Nat.le_refl _) (.cells #[.slice ao l.length cap, .int .i64 fl] 24)).alloc (by simp) (.cells #[.int .i64 t, .float .f64 v] 39))
  have HX0 := Lib.hid ((Bt.new w (.slice ao l.length cap) (.int .i64 fl) 24).alloc (.cells #[.int .i64 t, .float .f64 v] 39))
  have HY0 := Lib.hid (Bt.new (w.alloc (.cells #[.slice ao l.length cap, .int .i64 fl] 24)) (.int .i64 t) (.float .f64 v) 39)
  rw [World.size_alloc] at HY0
  have HR0 := Lib.hid (GR.after h HB0.out)
  have HFx : Hid (FitS [(t, v)]) := Lib.hid (fun x hx' => by simp at hx'; subst hx'; exact hxs)
  have HF := Lib.hid hF
  clear h hF hxs
  go_enter Try.func5, Try.ntmps5
  go_wp2_with fail
  refine (szSer ao cap l fl hn HF.out 1048576 (by omega) (by omega) _ HR0.out).mono ?_
  rintro e w1 ⟨⟨r, rfl, hr1, hr⟩, hb1⟩
  have HB1 := Lib.hid (HB0.out.trans (hb1.mono HB0.out.size))
  have HX1 := Lib.hid (HX0.out.below hb1)
  have HY1 := Lib.hid (HY0.out.below hb1)
  have HR1 := Lib.hid (GR.after HR0.out hb1)
  clear hb1 HB0 HX0 HY0 HR0
  rcases hr with rfl | ⟨hr0, hn1, hF1⟩
  · go_wp2
    go_ret
    exact ⟨rfl, HB1.out⟩
  have HF1 := Lib.hid hF1
  have HT := Lib.hid (fun W hW => toSer ao cap l fl hn1 W hW)
  have HTs := Lib.hid (fun W => to55 t v W)
  have HC1 := Lib.hid (fun o c W hW => psM o c l fl t v hn1 HF1.out HFx.out W hW)
  have HC2 := Lib.hid (fun o c W hW => psI o c l fl t v hn1 HF1.out HFx.out W hW)
  have HE := Lib.hid (fun o o' c c' W h1 h2 => eqSer o o' c c' l fl hn1 W h1 h2)
  have HMk := Lib.hid (fun base v xs W h => markSer base l.length v fl xs hn1 W h)
  have hyl : (psL l fl (t, v)).length ≤ 1048576 := psL_len l fl (t, v)
  unfold P3End at HC1 HC2
  generalize gsB l fl = g at HC1 HC2
  generalize psL l fl (t, v) = y at HC1 HC2 hyl
  generalize flF l fl = f at HC1 HC2
  generalize psC l fl (t, v) = cd at HC1 HC2
  have HEy := Lib.hid (fun (o o' : Option Addr) (c c' : Nat) W h1 h2 => eqSer o o' c c' y f hyl W h1 h2)
  have HMy := Lib.hid (fun base v xs W h => markSer base y.length v f xs hyl W h)
  have HHy := Lib.hid (fun (o : Option Addr) (c : Nat) W h => heldSer y.length o c f hyl W h)
  have hgg : (g != g) = false := by cases g <;> rfl
  have hcc : (cd != cd) = false := by simp
  have HAr := Lib.hid (fun (W : World) (hb : Below w1.heap.size w1 W) => GR.after HR1.out hb)
  clear hn hF1 hn1 hyl HFx HR1
  have hlx := HX1.out.lt
  have hly := HY1.out.lt
  have hb := (Below.refl w1.heap.size w1).drew
  go_upto_region 5 with fail
  go_cut [6, 7, 8] (fun s6 s7 s8 wx => ∃ (p : Nat) (o : Option Addr) (k : Nat), s6 = .pointer (some ⟨p, 0, none⟩) ∧ s7 = .int .i64 cd ∧ s8 = .bool g ∧ Hid (PsS w1 y f p o k wx))
  case first =>
    go_region_held3 (fun w' => (w'.cell? ⟨w.heap.size, 0, none⟩ = some (.slice ao l.length cap) ∧ w'.cell? ⟨w.heap.size, 1, none⟩ = some (.int .i64 fl)) ∧ w'.cell? ⟨w.heap.size + 1, 0, none⟩ = some (.int .i64 t) ∧ w'.cell? ⟨w.heap.size + 1, 1, none⟩ = some (.float .f64 v)) (first | with_reducible exact s4_of (HX1.out.below hb) (HY1.out.below hb) | with_reducible exact s4_of ((HX1.out.below hb).alloc _) ((HY1.out.below hb).alloc _) | with_reducible exact s4_of (HX1.out.alloc _).drew (HY1.out.alloc _).drew | with_reducible exact s4_of HX1.out HY1.out | with_reducible exact s4_of (((HX1.out.below hb).alloc _).far2 (ne_of hb hlx)) (((HY1.out.below hb).alloc _).far2 (ne_of hb hly)) | with_reducible exact s4_of ((HX1.out.below hb).far2 hgx) ((HY1.out.below hb).far2 hgy) | (refine ⟨⟨?_, ?_⟩, ?_, ?_⟩ <;> go_keep)) (first | (go_at_call 14; refine Calls.mono (HT.out _ (HAr.out _ ?_)) ?_; (first | with_reducible exact hb | with_reducible exact hb.alloc hb.size _ | with_reducible exact ((Below.refl _ _).alloc (Nat.le_refl _) _).drew); rintro e wa h2; obtain ⟨o2, k2, rfl, _, hq, hba⟩ := made_ser h2; (first | (with_reducible have hp := hp.below hba; with_reducible have hb := hb_step hb hba) | (with_reducible have hb := hb_step hb hba) | (with_reducible have hp := bt_nstep hba; have hg := hb.size; have hgx := ne_of hb hlx; have hgy := ne_of hb hly; with_reducible have hb := hb_astep hb hba) | (with_reducible have hp := bt_dstep hba; have hg := Nat.le_refl w1.heap.size; have hgx := Nat.ne_of_gt hlx; have hgy := Nat.ne_of_gt hly; with_reducible have hb := hb_dstep hba)); clear hba h2) | (go_at_call 22; refine (HTs.out _).mono ?_; rintro e wa ⟨rfl, hba⟩; (first | (with_reducible have hq := GR.after hq hba) | (with_reducible have hq := GR.after (GR.after hq ((Below.refl _ _).alloc (Nat.le_refl _) _)) hba)); (first | (with_reducible have hp := hp.below hba; with_reducible have hb := hb_step hb hba) | (with_reducible have hb := hb_step hb hba) | (with_reducible have hp := bt_nstep hba; have hg := hb.size; have hgx := ne_of hb hlx; have hgy := ne_of hb hly; with_reducible have hb := hb_astep hb hba) | (with_reducible have hp := bt_dstep hba; have hg := Nat.le_refl w1.heap.size; have hgx := Nat.ne_of_gt hlx; have hgy := Nat.ne_of_gt hly; with_reducible have hb := hb_dstep hba)); clear hba) | (go_at_call 21; refine Calls.mono (HC1.out _ _ _ ?_) ?_; (first | with_reducible exact hq | with_reducible exact GR.after hq ((Below.refl _ _).alloc (Nat.le_refl _) _)); rintro e wa ⟨⟨so, sc, rfl, ho⟩, hba⟩; (first | (with_reducible have hvp := ne_own hp ho) | (with_reducible have hvp := ne_own2 ho) | (with_reducible have hvp := ne_own3 ho) | skip); (first | (with_reducible have ho := own_lower ho hb.size) | (with_reducible have ho := own_lower ho (hb.alloc hb.size _).size) | (with_reducible have ho := own_lower ho (le_adrew _ _))); (first | (with_reducible have hp := hp.below hba; with_reducible have hb := hb_step hb hba) | (with_reducible have hb := hb_step hb hba) | (with_reducible have hp := bt_nstep hba; have hg := hb.size; have hgx := ne_of hb hlx; have hgy := ne_of hb hly; with_reducible have hb := hb_astep hb hba) | (with_reducible have hp := bt_dstep hba; have hg := Nat.le_refl w1.heap.size; have hgx := Nat.ne_of_gt hlx; have hgy := Nat.ne_of_gt hly; with_reducible have hb := hb_dstep hba)); clear hba; (try obtain ⟨z0', z1', zf0', zf1'⟩ := hp.cells)))
    all_goals
      go_wp2_with fail
      go_meet
      first
        | (with_reducible exact ⟨_, _, _, rfl, rfl, rfl, Lib.hid (ps_B hp hvp ho hg hb)⟩)
        | (with_reducible exact ⟨_, _, _, rfl, rfl, rfl, Lib.hid (ps_A ho hb)⟩)
  case rest =>
  obtain ⟨p6, so, sc, rfl, rfl, rfl, HP6⟩ := hcut
  obtain ⟨hO6, hP6, hV6, hg6, hB6⟩ := HP6.out
  obtain ⟨W3, rfl⟩ : ∃ W : World, W = wc := ⟨_, rfl⟩
  have HB3 := Lib.hid (HB1.out.trans (hB6.mono HB1.out.size))
  have HX3 := Lib.hid (HX1.out.below hB6); have HY3 := Lib.hid (HY1.out.below hB6)
  have HAr3 := Lib.hid (fun (W : World) (hb : Below W3.heap.size W3 W) => HAr.out W (hB6.trans (hb.mono hB6.size)))
  have HAx := Lib.hid (fun (W : World) (hb : Below W3.heap.size W3 W) => HX3.out.below hb)
  have HAy := Lib.hid (fun (W : World) (hb : Below W3.heap.size W3 W) => HY3.out.below hb)
  have hsy : CRow W3 W3.heap.size so y := GR.of_own cC_len hO6
  have HSy := Lib.hid (fun (W : World) (hb : Below W3.heap.size W3 W) => GR.after hsy hb)
  have HSb := Lib.hid (fun (W : World) (hb : Below W3.heap.size W3 W) => hP6.below hb)
  have hp6 := hP6.lt
  clear hO6 hP6 hV6 hg6 hB6 hsy HP6 HX1 HY1 HB1 HAr hb hlx hly
  obtain ⟨x0, x1, _⟩ := HX3.out.cells
  go_wp2_with fail
  refine (HT.out _ (HAr3.out _ (Below.refl _ _))).mono ?_
  rintro e w4 h4
  obtain ⟨o4, k4, rfl, hO4, hR4, hb4⟩ := made_ser h4
  have hW4 := (Below.refl w4.heap.size w4).alloc (Nat.le_refl _) (.cells #[.slice o4 l.length k4, .int .i64 fl] 29)
  have HL4 := Lib.hid (hb4.trans (hW4.mono hb4.size))
  have HQ4 := Lib.hid (GR.after hR4 hW4)
  have HP4 := Lib.hid (Bt.new w4 (.slice o4 l.length k4) (.int .i64 fl) 29)
  have HO4 := Lib.hid (hO4.alloc (.cells #[.slice o4 l.length k4, .int .i64 fl] 29))
  have HV4 := Lib.hid (fun k (hk : (Value.slice o4 l.length k4).ownBlock = some k) => (hO4.lt k hk).2)
  have h34 := hb4.size
  clear hb4 h4 hR4 hO4 hW4 x0 x1
  go_upto_region 7 with fail
  obtain ⟨W4, hW4e⟩ : ∃ W, W = w4.alloc (.cells #[.slice o4 l.length k4, .int .i64 fl] 29) := ⟨_, rfl⟩
  have hWs : w4.heap.size < W4.heap.size := by rw [hW4e]; simp
  rw [← hW4e] at HQ4 HP4 HO4 HL4 ⊢
  clear hW4e
  have HY4 := Lib.hid (HAy.out _ HL4.out)
  have HQu := Lib.hid (fun (W : World) (hb : Below W4.heap.size W4 W) => GR.after HQ4.out hb)
  have hlx := HP4.out.lt
  have hly := HY4.out.lt
  have hb := (Below.refl W4.heap.size W4).drew
  go_cut [10, 11, 12] (fun s6 s7 s8 wx => ∃ (p : Nat) (o : Option Addr) (k : Nat), s6 = .pointer (some ⟨p, 0, none⟩) ∧ s7 = .int .i64 cd ∧ s8 = .bool g ∧ Hid (PsS W4 y f p o k wx))
  case first =>
    go_region_held3 (fun w' => (w'.cell? ⟨w4.heap.size, 0, none⟩ = some (.slice o4 l.length k4) ∧ w'.cell? ⟨w4.heap.size, 1, none⟩ = some (.int .i64 fl)) ∧ w'.cell? ⟨w.heap.size + 1, 0, none⟩ = some (.int .i64 t) ∧ w'.cell? ⟨w.heap.size + 1, 1, none⟩ = some (.float .f64 v)) (first | with_reducible exact s4_of (HP4.out.below hb) (HY4.out.below hb) | with_reducible exact s4_of ((HP4.out.below hb).alloc _) ((HY4.out.below hb).alloc _) | with_reducible exact s4_of (HP4.out.alloc _).drew (HY4.out.alloc _).drew | with_reducible exact s4_of HP4.out HY4.out | with_reducible exact s4_of (((HP4.out.below hb).alloc _).far2 (ne_of hb hlx)) (((HY4.out.below hb).alloc _).far2 (ne_of hb hly)) | with_reducible exact s4_of ((HP4.out.below hb).far2 hgx) ((HY4.out.below hb).far2 hgy) | (refine ⟨⟨?_, ?_⟩, ?_, ?_⟩ <;> go_keep)) (first | (go_at_call 22; refine (HTs.out _).mono ?_; rintro e wa ⟨rfl, hba⟩; (first | (with_reducible have hp := hp.below hba; with_reducible have hb := hb_step hb hba) | (with_reducible have hb := hb_step hb hba) | (with_reducible have hp := bt_nstep hba; have hg := hb.size; have hgx := ne_of hb hlx; have hgy := ne_of hb hly; with_reducible have hb := hb_astep hb hba) | (with_reducible have hp := bt_dstep hba; have hg := Nat.le_refl W4.heap.size; have hgx := Nat.ne_of_gt hlx; have hgy := Nat.ne_of_gt hly; with_reducible have hb := hb_dstep hba)); clear hba) | (go_at_call 23; refine Calls.mono (HC2.out _ _ _ ?_) ?_; (first | with_reducible exact HQu.out _ hb | with_reducible exact HQu.out _ (hb.alloc hb.size _) | with_reducible exact HQu.out _ ((Below.refl _ _).alloc (Nat.le_refl _) _).drew); rintro e wa ⟨⟨so, sc, rfl, ho⟩, hba⟩; (first | (with_reducible have hvp := ne_own hp ho) | (with_reducible have hvp := ne_own2 ho) | (with_reducible have hvp := ne_own3 ho) | skip); (first | (with_reducible have ho := own_lower ho hb.size) | (with_reducible have ho := own_lower ho (hb.alloc hb.size _).size) | (with_reducible have ho := own_lower ho (le_adrew _ _))); (first | (with_reducible have hp := hp.below hba; with_reducible have hb := hb_step hb hba) | (with_reducible have hb := hb_step hb hba) | (with_reducible have hp := bt_nstep hba; have hg := hb.size; have hgx := ne_of hb hlx; have hgy := ne_of hb hly; with_reducible have hb := hb_astep hb hba) | (with_reducible have hp := bt_dstep hba; have hg := Nat.le_refl W4.heap.size; have hgx := Nat.ne_of_gt hlx; have hgy := Nat.ne_of_gt hly; with_reducible have hb := hb_dstep hba)); clear hba; (try obtain ⟨z0', z1', zf0', zf1'⟩ := hp.cells)))
    all_goals
      go_wp2_with fail
      go_meet
      first
        | (with_reducible exact ⟨_, _, _, rfl, rfl, rfl, Lib.hid (ps_B hp hvp ho hg hb)⟩)
        | (with_reducible exact ⟨_, _, _, rfl, rfl, rfl, Lib.hid (ps_A ho hb)⟩)
  case rest =>
  obtain ⟨p10, go, gc, rfl, rfl, rfl, HP10⟩ := hcut
  obtain ⟨hO10, hP10, hV10, hg10, hB10⟩ := HP10.out
  obtain ⟨W5, rfl⟩ : ∃ W : World, W = wc := ⟨_, rfl⟩
  have HP5 := Lib.hid (HP4.out.below hB10)
  have HQ5 := Lib.hid (GR.after HQ4.out hB10)
  have HO5 := Lib.hid (own_below HO4.out hB10)
  have HG5 := Lib.hid hO10
  have HGb5 := Lib.hid hP10
  have HVg := Lib.hid hV10
  have HL5 := Lib.hid (HL4.out.trans (hB10.mono HL4.out.size))
  have hg10' := hg10
  clear hO10 hP10 hV10 hg10 hB10 HP10 HQ4 HP4 HO4 HL4 HY4 HQu hb hlx hly
  obtain ⟨x0, x1, _⟩ := HGb5.out.cells
  obtain ⟨z0, z1, _⟩ := (HSb.out _ HL5.out).cells
  go_wp2_with fail
  refine (HEy.out go so gc sc _ (GR.of_own cC_len HG5.out) (HSy.out _ HL5.out)).mono ?_
  rintro e w6 ⟨rfl, hb6⟩
  have HP6 := Lib.hid (HP5.out.below hb6)
  have HO6 := Lib.hid (own_below HO5.out hb6)
  have HG6 := Lib.hid (own_below HG5.out hb6)
  have HGb6 := Lib.hid (HGb5.out.below hb6)
  have HL6 := Lib.hid (HL5.out.trans (hb6.mono HL5.out.size))
  have HQ6 := Lib.hid (GR.after HQ5.out hb6)
  have HBox := Lib.hid (fun (W : World) (hb : Below w6.heap.size w6 W) => GR.after HQ6.out hb)
  have HArg := Lib.hid (fun (W : World) (hb : Below w6.heap.size w6 W) => GR.after (HAr3.out _ HL6.out) hb)
  have HX6 := Lib.hid (HAx.out _ HL6.out)
  clear hb6 HP5 HO5 HG5 HGb5 HL5 HQ5 x0 x1 z0 z1
  obtain ⟨x0, x1, _⟩ := HX6.out.cells
  obtain ⟨p0, p1, _⟩ := HP6.out.cells
  go_wp2_with fail
  go_upto_region 10 with fail
  go_cut [61] (fun s wx => s = .bool false ∧ Hid (Below w6.heap.size w6 wx))
  case first =>
    go_region_held3 (fun w' => w'.cell? ⟨w4.heap.size, 0, none⟩ = some (.slice o4 l.length k4) ∧ w'.cell? ⟨w4.heap.size, 1, none⟩ = some (.int .i64 fl) ∧ w'.cell? ⟨w.heap.size, 0, none⟩ = some (.slice ao l.length cap) ∧ w'.cell? ⟨w.heap.size, 1, none⟩ = some (.int .i64 fl)) (exact ⟨by assumption, by assumption, by assumption, by assumption⟩) (first | (go_at_call 14; refine (HT.out _ (HArg.out _ (Below.refl _ _).drew)).mono ?_; rintro e w7 h7; obtain ⟨o7, k7, rfl, _, hR7, hb7'⟩ := made_ser h7; have hb7 := (Below.refl w6.heap.size w6).drew.trans hb7'; clear hb7' h7; obtain ⟨q0, q1, _⟩ := (HP6.out.below hb7).cells; obtain ⟨u0, u1, _⟩ := (HX6.out.below hb7).cells) | (go_at_call 16; refine (HE.out _ _ _ _ _ (HBox.out _ hb7) hR7).mono ?_; rintro e w8 ⟨rfl, hb8'⟩; have hb8 := hb7.trans (hb8'.mono hb7.size); clear hb8'; obtain ⟨r0, r1, _⟩ := (HP6.out.below hb8).cells; obtain ⟨t0, t1, _⟩ := (HX6.out.below hb8).cells))
    all_goals
      go_wp2_with fail
      go_meet
      exact ⟨rfl, Lib.hid hb8⟩
  case rest =>
  obtain ⟨rfl, HW⟩ := hcut
  obtain ⟨W7, rfl⟩ : ∃ W : World, W = wc := ⟨_, rfl⟩
  have HP7 := Lib.hid (HP6.out.below HW.out)
  have HO7 := Lib.hid (own_below HO6.out HW.out)
  have HG7 := Lib.hid (own_below HG6.out HW.out)
  have HGb7 := Lib.hid (HGb6.out.below HW.out)
  have HL7 := Lib.hid (HL6.out.trans (HW.out.mono HL6.out.size))
  clear HW HP6 HO6 HG6 HGb6 HL6 HArg HBox HX6 HQ6 x0 x1 p0 p1
  obtain ⟨p0, p1, _⟩ := HP7.out.cells
  go_wp2_with fail
  refine (HMk.out _ _ _ _ HO7.out).mono ?_
  rintro e w8 ⟨rfl, _, hg8⟩
  have HB78 : Hid (Below W3.heap.size W7 w8) := Lib.hid ((Below.refl _ _).grown hg8 HL7.out.size (chunk_block HO7.out))
  have HL8 := Lib.hid (HL7.out.trans HB78.out)
  have HG8 := Lib.hid (own_apart HG7.out hg8 (fun k hk => by have := HV4.out k hk; omega))
  have HGb8 := Lib.hid (HGb7.out.apart hg8 (fun e => by have := HV4.out _ e; omega))
  clear hg8 HB78 HL7 HG7 HGb7 HO7 HP7 p0 p1
  obtain ⟨x0, x1, _⟩ := HGb8.out.cells
  obtain ⟨z0, z1, _⟩ := (HSb.out _ HL8.out).cells
  go_wp2_with fail
  refine (HEy.out go so gc sc _ (GR.of_own cC_len HG8.out) (HSy.out _ HL8.out)).mono ?_
  rintro e w9 ⟨rfl, hb9⟩
  have HL9 := Lib.hid (HL8.out.trans (hb9.mono HL8.out.size))
  have HG9 := Lib.hid (own_below HG8.out hb9)
  have HGb9 := Lib.hid (HGb8.out.below hb9)
  clear hb9 HL8 HG8 HGb8 x0 x1 z0 z1
  obtain ⟨x0, x1, _⟩ := HGb9.out.cells
  go_wp2_with fail
  refine (HMy.out W4.heap.size _ _ _ HG9.out).mono ?_
  rintro e w10 ⟨rfl, ho10, hg10⟩
  have HB910 : Hid (Below W3.heap.size w9 w10) := Lib.hid ((Below.refl _ _).grown hg10 HL9.out.size (fun k hk => by have := (HG9.out.lt k hk).1; omega))
  have HL10 := Lib.hid (HL9.out.trans HB910.out)
  have HG10 := Lib.hid ho10
  have HGb10 := Lib.hid (HGb9.out.apart hg10 HVg.out)
  clear ho10 hg10 HB910 HL9 HG9 HGb9 x0 x1
  obtain ⟨x0, x1, _⟩ := HGb10.out.cells
  have HLn := Lib.hid (marksC_len y.length)
  have HD10 : Hid (CRow w10 w10.heap.size go (marksC y.length)) := Lib.hid (by
    have h := HG10.out
    rw [← HLn.out] at h
    exact GR.of_own (c := gc) cC_len (by simpa only [HLn.out] using h))
  go_wp2_with fail
  refine (HHy.out go gc _ HD10.out).mono ?_
  rintro e w11 ⟨rfl, hb11⟩
  have HL11 := Lib.hid (HL10.out.trans (hb11.mono HL10.out.size))
  have HD11 := Lib.hid (GR.after HD10.out hb11)
  have HGb11 := Lib.hid (HGb10.out.below hb11)
  clear hb11 HL10 HG10 HGb10 HD10 x0 x1
  have HX11 := Lib.hid (HAx.out _ HL11.out); have HY11 := Lib.hid (HAy.out _ HL11.out)
  have HAr11 := Lib.hid (fun (W : World) (hb : Below w11.heap.size w11 W) => HAr3.out W (HL11.out.trans (hb.mono HL11.out.size)))
  go_wp2_with fail
  have hlx := HX11.out.lt
  have hly := HY11.out.lt
  have hb := (Below.refl w11.heap.size w11).drew
  go_upto_region 24 with fail
  go_cut [16, 17, 18] (fun s6 s7 s8 wx => ∃ (p : Nat) (o : Option Addr) (k : Nat), s6 = .pointer (some ⟨p, 0, none⟩) ∧ s7 = .int .i64 cd ∧ s8 = .bool g ∧ Hid (PsS w11 y f p o k wx))
  case first =>
    go_region_held3 (fun w' => (w'.cell? ⟨w.heap.size, 0, none⟩ = some (.slice ao l.length cap) ∧ w'.cell? ⟨w.heap.size, 1, none⟩ = some (.int .i64 fl)) ∧ w'.cell? ⟨w.heap.size + 1, 0, none⟩ = some (.int .i64 t) ∧ w'.cell? ⟨w.heap.size + 1, 1, none⟩ = some (.float .f64 v)) (first | with_reducible exact s4_of (HX11.out.below hb) (HY11.out.below hb) | with_reducible exact s4_of ((HX11.out.below hb).alloc _) ((HY11.out.below hb).alloc _) | with_reducible exact s4_of (HX11.out.alloc _).drew (HY11.out.alloc _).drew | with_reducible exact s4_of HX11.out HY11.out | with_reducible exact s4_of (((HX11.out.below hb).alloc _).far2 (ne_of hb hlx)) (((HY11.out.below hb).alloc _).far2 (ne_of hb hly)) | with_reducible exact s4_of ((HX11.out.below hb).far2 hgx) ((HY11.out.below hb).far2 hgy) | (refine ⟨⟨?_, ?_⟩, ?_, ?_⟩ <;> go_keep)) (first | (go_at_call 14; refine Calls.mono (HT.out _ (HAr11.out _ ?_)) ?_; (first | with_reducible exact hb | with_reducible exact hb.alloc hb.size _ | with_reducible exact ((Below.refl _ _).alloc (Nat.le_refl _) _).drew); rintro e wa h2; obtain ⟨o2, k2, rfl, _, hq, hba⟩ := made_ser h2; (first | (with_reducible have hp := hp.below hba; with_reducible have hb := hb_step hb hba) | (with_reducible have hb := hb_step hb hba) | (with_reducible have hp := bt_nstep hba; have hg := hb.size; have hgx := ne_of hb hlx; have hgy := ne_of hb hly; with_reducible have hb := hb_astep hb hba) | (with_reducible have hp := bt_dstep hba; have hg := Nat.le_refl w11.heap.size; have hgx := Nat.ne_of_gt hlx; have hgy := Nat.ne_of_gt hly; with_reducible have hb := hb_dstep hba)); clear hba h2) | (go_at_call 22; refine (HTs.out _).mono ?_; rintro e wa ⟨rfl, hba⟩; (first | (with_reducible have hq := GR.after hq hba) | (with_reducible have hq := GR.after (GR.after hq ((Below.refl _ _).alloc (Nat.le_refl _) _)) hba)); (first | (with_reducible have hp := hp.below hba; with_reducible have hb := hb_step hb hba) | (with_reducible have hb := hb_step hb hba) | (with_reducible have hp := bt_nstep hba; have hg := hb.size; have hgx := ne_of hb hlx; have hgy := ne_of hb hly; with_reducible have hb := hb_astep hb hba) | (with_reducible have hp := bt_dstep hba; have hg := Nat.le_refl w11.heap.size; have hgx := Nat.ne_of_gt hlx; have hgy := Nat.ne_of_gt hly; with_reducible have hb := hb_dstep hba)); clear hba) | (go_at_call 23; refine Calls.mono (HC2.out _ _ _ ?_) ?_; (first | with_reducible exact hq | with_reducible exact GR.after hq ((Below.refl _ _).alloc (Nat.le_refl _) _)); rintro e wa ⟨⟨so, sc, rfl, ho⟩, hba⟩; (first | (with_reducible have hvp := ne_own hp ho) | (with_reducible have hvp := ne_own2 ho) | (with_reducible have hvp := ne_own3 ho) | skip); (first | (with_reducible have ho := own_lower ho hb.size) | (with_reducible have ho := own_lower ho (hb.alloc hb.size _).size) | (with_reducible have ho := own_lower ho (le_adrew _ _))); (first | (with_reducible have hp := hp.below hba; with_reducible have hb := hb_step hb hba) | (with_reducible have hb := hb_step hb hba) | (with_reducible have hp := bt_nstep hba; have hg := hb.size; have hgx := ne_of hb hlx; have hgy := ne_of hb hly; with_reducible have hb := hb_astep hb hba) | (with_reducible have hp := bt_dstep hba; have hg := Nat.le_refl w11.heap.size; have hgx := Nat.ne_of_gt hlx; have hgy := Nat.ne_of_gt hly; with_reducible have hb := hb_dstep hba)); clear hba; (try obtain ⟨z0', z1', zf0', zf1'⟩ := hp.cells)))
    all_goals
      go_wp2_with fail
      go_meet
      first
        | (with_reducible exact ⟨_, _, _, rfl, rfl, rfl, Lib.hid (ps_B hp hvp ho hg hb)⟩)
        | (with_reducible exact ⟨_, _, _, rfl, rfl, rfl, Lib.hid (ps_A ho hb)⟩)
  case rest =>
  obtain ⟨p16, ho, hc, rfl, rfl, rfl, HP16⟩ := hcut
  obtain ⟨hO16, hP16, _, _, hB16⟩ := HP16.out
  have HL13 := Lib.hid (HL11.out.trans (hB16.mono HL11.out.size))
  have HD13 := Lib.hid (GR.after HD11.out hB16)
  have HGb13 := Lib.hid (HGb11.out.below hB16)
  have HR13 := Lib.hid (GR.of_own cC_len hO16)
  obtain ⟨x0, x1, _⟩ := hP16.cells
  obtain ⟨z0, z1, _⟩ := (HSb.out _ HL13.out).cells
  clear hO16 hP16 hB16 HP16 HL11 HD11 HGb11 HX11 HY11 HAr11 hb hlx hly
  go_wp2_with fail
  refine (HEy.out ho so hc sc _ HR13.out (HSy.out _ HL13.out)).mono ?_
  rintro e w14 ⟨rfl, hb14⟩
  have HL14 := Lib.hid (HL13.out.trans (hb14.mono HL13.out.size))
  have HD14 := Lib.hid (GR.after HD13.out hb14)
  clear x0 x1 z0 z1
  obtain ⟨x0, x1, _⟩ := (HGb13.out.below hb14).cells
  clear hb14 HL13 HD13 HR13 HGb13
  go_wp2_with fail
  refine (HHy.out go gc _ HD14.out).mono ?_
  rintro e w15 ⟨rfl, hb15⟩
  have HL15 := Lib.hid (HL14.out.trans (hb15.mono HL14.out.size))
  clear hb15
  go_wp2
  go_ret
  exact ⟨rfl, HB3.out.trans (HL15.out.mono HB3.out.size)⟩
end Go.Proofs.Yteiefngamccapaa
