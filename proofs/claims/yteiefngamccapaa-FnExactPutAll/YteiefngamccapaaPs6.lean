/- Contracts of PutSample in the model and in the program, over this seat's translation. -/
import Derived.Test.YteiefngamccapaaPu
import Derived.Test.YteiefngamccapaaGm
import Derived.Test.YteiefngamccapaaCg
namespace Go.Proofs.Yteiefngamccapaa
open Go.RowKit Go.Deep

/-- What a put of a series answers: the series, the code, and whether it is told. -/
def P3End (cs : List Chk) (f c : Int) (b : Bool) (w : World) (e : Ending) (w' : World) : Prop :=
  (∃ (ao : Option Addr) (cp : Nat), e = .returned (.tuple #[.agg #[.slice ao cs.length cp, .int .i64 f], .int .i64 c, .bool b]) ∧ w'.ownsRow w.heap.size 85 4 (.slice ao cs.length cp) cs.length (cellsG cC cs)) ∧ Below w.heap.size w w'
theorem p3_none {w w' : World} (h : Below w.heap.size w w') : P3End [] 0 0 false w (.returned (.tuple #[.agg #[.slice none 0 0, .int .i64 0], .int .i64 0, .bool false])) w' := ⟨⟨none, 0, rfl, World.ownsRow_nil _ _ _ _⟩, h⟩
theorem p3_some {w w' : World} {cs : List Chk} {f c : Int} {v : Value} (ho : w'.ownsRow w.heap.size 85 4 v cs.length (cellsG cC cs)) (h : Below w.heap.size w w') : P3End cs f c true w (.returned (.tuple #[.agg #[v, .int .i64 f], .int .i64 c, .bool true])) w' := by
  obtain ⟨ao, cp, rfl⟩ := own_slice ho
  exact ⟨⟨ao, cp, rfl, ho⟩, h⟩
/-- The model's put, whatever the code. -/
theorem putM (ao : Option Addr) (cap : Nat) (l : List Chk) (fl t : Int) (v : Nat) (h6 : l.length ≤ 6) (hF : FitC l 1048576) (hal : allB l = true) (hx : FitS [(t, v)]) (w : World) (h : CRow w w.heap.size ao l) :
    Calls Try.prog 56 #[.agg #[.slice ao l.length cap, .int .i64 fl], .agg #[.int .i64 t, .float .f64 v]] w (PuEnd (ptL l fl (t, v)) fl (cdF l fl (t, v)) w) := by
  by_cases hcd : cdF l fl (t, v) = 0
  · rw [hcd]; exact putM_yes ao cap l fl t v h6 hF hal hx hcd w h
  · rw [ptL_no hcd]; exact putM_no ao cap l fl t v h6 hF hal hcd w h
theorem putI (base p : Nat) (o : Option Addr) (k : Nat) (l : List Chk) (fl t : Int) (v : Nat) (h6 : l.length ≤ 6) (hF : FitC l 1048576) (hal : allB l = true) (hx : FitS [(t, v)]) (hbp : base ≤ p) (w : World) (hbw : base ≤ w.heap.size)
    (hp : Bt w p (.slice o l.length k) (.int .i64 fl)) (ho : w.ownsRow base 85 4 (.slice o l.length k) l.length (cellsG cC l)) (hv : (Value.slice o l.length k).ownBlock ≠ some p) :
    Calls Try.prog 58 #[.pointer (some ⟨p, 0, none⟩), .agg #[.int .i64 t, .float .f64 v]] w (PiEnd base p (ptL l fl (t, v)) fl (cdF l fl (t, v)) w) := by
  by_cases hcd : cdF l fl (t, v) = 0
  · rw [hcd]; exact putI_yes base p o k l fl t v h6 hF hal hx hcd hbp w hbw hp ho hv
  · rw [ptL_no hcd]; exact putI_no base p o k l fl t v h6 hF hal hcd w hbw hp ho hv

set_option maxHeartbeats 8000000 in
set_option maxRecDepth 100000 in
theorem psM (ao : Option Addr) (cap : Nat) (l : List Chk) (fl t : Int) (v : Nat) (hn : l.length ≤ 1048576) (hF : FitC l 1048576) (hx : FitS [(t, v)]) (w : World) (h : CRow w w.heap.size ao l) :
    Calls Try.prog 21 #[.agg #[.slice ao l.length cap, .int .i64 fl], .agg #[.int .i64 t, .float .f64 v]] w (P3End (psL l fl (t, v)) (flF l fl) (psC l fl (t, v)) (gsB l fl) w) := by
  have hst := @run_store_float Try.prog
  have HB0 := Lib.hid ((((Below.refl w.heap.size w).alloc (Nat.le_refl _) (.cells #[.slice ao l.length cap, .int .i64 fl] 29)).alloc (by simp) (.cells #[.int .i64 t, .float .f64 v] 42)).alloc (by simp; omega) (.cells #[.slice none 0 0, .int .i64 0] 29))
  have HX0 := Lib.hid (((Bt.new w (.slice ao l.length cap) (.int .i64 fl) 29).alloc (.cells #[.int .i64 t, .float .f64 v] 42)).alloc (.cells #[.slice none 0 0, .int .i64 0] 29))
  have HY0 := Lib.hid ((Bt.new (w.alloc (.cells #[.slice ao l.length cap, .int .i64 fl] 29)) (.int .i64 t) (.float .f64 v) 42).alloc (.cells #[.slice none 0 0, .int .i64 0] 29))
  have HZ0 := Lib.hid (Bt.new ((w.alloc (.cells #[.slice ao l.length cap, .int .i64 fl] 29)).alloc (.cells #[.int .i64 t, .float .f64 v] 42)) (.slice none 0 0) (.int .i64 0) 29)
  simp only [World.size_alloc] at HY0 HZ0
  have HR0 := Lib.hid (GR.after h HB0.out)
  have HC := Lib.hid (fun W hW => goodM ao cap l fl hn hF W hW)
  unfold GsEnd at HC
  clear h
  by_cases hg : gsB l fl = true
  case neg =>
    have hg : gsB l fl = false := by simpa using hg
    rw [hg] at HC
    rw [(ps_no (t, v) hg).1, (ps_no (t, v) hg).2, flF_no hg, hg]
    clear hg hF hx
    go_enter Try.func21, Try.ntmps21
    go_wp2_with fail
    refine (HC.out _ HR0.out).mono ?_
    rintro e w1 ⟨rfl, hb1⟩
    have HB1 := Lib.hid (HB0.out.trans (hb1.mono HB0.out.size))
    obtain ⟨z0, z1, f0, f1⟩ := (HZ0.out.below hb1).cells
    clear hb1
    go_wp2
    exact bodyPost_ret (v := .tuple #[.agg #[.slice none 0 0, .int .i64 0], .int .i64 0, .bool false]) (by simp [results, Try.results21, go_sem, z0, z1]) rfl (p3_none (set2_belowT HB1.out (by omega)))
  have h6 := (gs_is hg).len
  have HP := Lib.hid (fun W hW => putM ao cap l fl t v h6 hF (gs_is hg).all hx W hW)
  rw [(ps_yes (t, v) hg).1, (ps_yes (t, v) hg).2, flF_yes hg, hg]
  rw [hg] at HC
  unfold PuEnd at HP
  clear hg hn hF hx
  generalize ptL l fl (t, v) = y at HP ⊢
  generalize cdF l fl (t, v) = cd at HP ⊢
  go_enter Try.func21, Try.ntmps21
  go_wp2_with fail
  refine (HC.out _ HR0.out).mono ?_
  rintro e w1 ⟨rfl, hb1⟩
  have HB1 := Lib.hid (HB0.out.trans (hb1.mono HB0.out.size))
  have HX1 := Lib.hid (HX0.out.below hb1); have HY1 := Lib.hid (HY0.out.below hb1); have HZ1 := Lib.hid (HZ0.out.below hb1)
  have HR1 := Lib.hid (GR.after HR0.out hb1)
  clear hb1 HB0 HX0 HY0 HZ0 HR0
  obtain ⟨x0, x1, _⟩ := HX1.out.cells
  obtain ⟨y0, y1, _⟩ := HY1.out.cells
  go_wp2_with fail
  refine (HP.out _ HR1.out).mono ?_
  rintro e w2 ⟨⟨o, k, rfl, ho⟩, hb2⟩
  have hW2 := (Below.refl w2.heap.size w2).alloc (Nat.le_refl _) (.cells #[.slice o y.length k, .int .i64 fl] 29)
  have HB2 := Lib.hid ((HB1.out.trans (hb2.mono HB1.out.size)).trans (hW2.mono (Nat.le_trans HB1.out.size hb2.size)))
  have HZ2 := Lib.hid ((HZ1.out.below hb2).below hW2)
  have HO2 := Lib.hid (ho.alloc (.cells #[.slice o y.length k, .int .i64 fl] 29))
  have HQ2 := Lib.hid (Bt.new w2 (.slice o y.length k) (.int .i64 fl) 29)
  have hz1 : w.heap.size + 1 + 1 < w1.heap.size := HZ1.out.lt
  have hz2 := hb2.size
  have hne : w2.heap.size ≠ w.heap.size + 1 + 1 := by omega
  clear hb2 ho hW2 x0 x1 y0 y1 HX1 HY1 HZ1 HB1 HR1
  obtain ⟨p0, p1, _⟩ := HQ2.out.cells
  obtain ⟨z0, z1, zf0, zf1⟩ := HZ2.out.cells
  go_wp2
  exact bodyPost_ret (v := .tuple #[.agg #[.slice o y.length k, .int .i64 fl], .int .i64 cd, .bool true]) (by simp [results, Try.results21, go_sem, z0, z1]) rfl (p3_some (own_lower (own_set (own_set HO2.out (by omega)) (by omega)) (by omega)) (set2_belowT HB2.out (by omega)))

set_option maxHeartbeats 8000000 in
set_option maxRecDepth 100000 in
theorem psI (ao : Option Addr) (cap : Nat) (l : List Chk) (fl t : Int) (v : Nat) (hn : l.length ≤ 1048576) (hF : FitC l 1048576) (hx : FitS [(t, v)]) (w : World) (h : CRow w w.heap.size ao l) :
    Calls Try.prog 23 #[.agg #[.slice ao l.length cap, .int .i64 fl], .agg #[.int .i64 t, .float .f64 v]] w (P3End (psL l fl (t, v)) (flF l fl) (psC l fl (t, v)) (gsB l fl) w) := by
  have hst := @run_store_float Try.prog
  have HB0 := Lib.hid ((((Below.refl w.heap.size w).alloc (Nat.le_refl _) (.cells #[.slice ao l.length cap, .int .i64 fl] 29)).alloc (by simp) (.cells #[.int .i64 t, .float .f64 v] 42)).alloc (by simp; omega) (.cells #[.slice none 0 0, .int .i64 0] 29))
  have HY0 := Lib.hid ((Bt.new (w.alloc (.cells #[.slice ao l.length cap, .int .i64 fl] 29)) (.int .i64 t) (.float .f64 v) 42).alloc (.cells #[.slice none 0 0, .int .i64 0] 29))
  have HZ0 := Lib.hid (Bt.new ((w.alloc (.cells #[.slice ao l.length cap, .int .i64 fl] 29)).alloc (.cells #[.int .i64 t, .float .f64 v] 42)) (.slice none 0 0) (.int .i64 0) 29)
  simp only [World.size_alloc] at HY0 HZ0
  have HR0 := Lib.hid (GR.after h HB0.out)
  clear h
  by_cases hg : gsB l fl = true
  case neg =>
    have hg : gsB l fl = false := by simpa using hg
    have HC := Lib.hid (fun W hW => copy_no ao cap l fl hn hF hg W hW)
    rw [(ps_no (t, v) hg).1, (ps_no (t, v) hg).2, flF_no hg, hg]
    clear hg hF hx
    go_enter Try.func23, Try.ntmps23
    go_wp2_with fail
    refine (HC.out _ HR0.out).mono ?_
    rintro e w1 ⟨rfl, hb1⟩
    have HB1 := Lib.hid (HB0.out.trans (hb1.mono HB0.out.size))
    obtain ⟨z0, z1, f0, f1⟩ := (HZ0.out.below hb1).cells
    clear hb1
    go_wp2
    exact bodyPost_ret (v := .tuple #[.agg #[.slice none 0 0, .int .i64 0], .int .i64 0, .bool false]) (by simp [results, Try.results23, go_sem, z0, z1]) rfl (p3_none (set2_belowT HB1.out (by omega)))
  have h6 := (gs_is hg).len
  have HC := Lib.hid (fun W hW => copy_yes ao cap l fl hn hF hg W hW)
  have HP := Lib.hid (fun base p o k hbp W hbw h1 h2 h3 => putI base p o k l fl t v h6 hF (gs_is hg).all hx hbp W hbw h1 h2 h3)
  rw [(ps_yes (t, v) hg).1, (ps_yes (t, v) hg).2, flF_yes hg, hg]
  unfold PiEnd at HP
  clear hg hn hF hx
  generalize ptL l fl (t, v) = y at HP ⊢
  generalize cdF l fl (t, v) = cd at HP ⊢
  go_enter Try.func23, Try.ntmps23
  go_wp2_with fail
  refine (HC.out _ HR0.out).mono ?_
  rintro e w1 ⟨p, vv, rfl, hP, hO, hpl, hvp, hb1⟩
  obtain ⟨o, c, rfl⟩ := own_slice hO
  simp only [World.size_alloc] at hO hpl
  have HP1 := Lib.hid hP; have HO1 := Lib.hid hO; have HVp := Lib.hid hvp
  have HB1 := Lib.hid (HB0.out.trans (hb1.mono HB0.out.size))
  have HY1 := Lib.hid (HY0.out.below hb1); have HZ1 := Lib.hid (HZ0.out.below hb1)
  have hz1 : w.heap.size + 1 + 1 < w1.heap.size := HZ1.out.lt
  clear hP hO hvp hb1 HB0 HY0 HZ0 HR0 HC
  obtain ⟨y0, y1, _⟩ := HY1.out.cells
  go_wp2_with fail
  refine (HP.out (w.heap.size + 1 + 1 + 1) p o c hpl _ (by omega) HP1.out HO1.out HVp.out).mono ?_
  rintro e w2 ⟨o2, k2, rfl, ho2, hp2, _, hb2⟩
  have hB12 : Below w.heap.size w w2 := HB1.out.trans (hb2.mono (by omega))
  have HB2 := Lib.hid hB12
  have HZ2 : Hid (Bt w2 (w.heap.size + 1 + 1) (.slice none 0 0) (.int .i64 0)) := Lib.hid (by
    obtain ⟨tt, hh⟩ := HZ1.out
    exact ⟨tt, (hb2.block _ (by omega)).trans hh⟩)
  have HO2 := Lib.hid ho2
  have hne : p ≠ w.heap.size + 1 + 1 := by omega
  obtain ⟨p0, p1, _⟩ := hp2.cells
  obtain ⟨z0, z1, zf0, zf1⟩ := HZ2.out.cells
  clear ho2 hp2 hb2 hB12 y0 y1 HY1 HZ1 HB1 HO1 HP1
  go_wp2
  exact bodyPost_ret (v := .tuple #[.agg #[.slice o2 y.length k2, .int .i64 fl], .int .i64 cd, .bool true]) (by simp [results, Try.results23, go_sem, z0, z1]) rfl (p3_some (own_lower (own_set (own_set HO2.out (by omega)) (by omega)) (by omega)) (set2_belowT HB2.out (by omega)))
end Go.Proofs.Yteiefngamccapaa
