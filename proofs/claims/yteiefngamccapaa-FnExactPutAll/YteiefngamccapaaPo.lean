/- The model's putting of a sample where the code is 'done': into the last chunk with room, or into a new one behind. -/
import Derived.Test.YteiefngamccapaaPm
import Derived.Deep.RegionHeld3
import Derived.Deep.RegionLaw
import Derived.Deep.DeepCutAuto
namespace Go.Proofs.Yteiefngamccapaa
open Go.RowKit Go.Deep

/-- What stands ahead of the sample's coming into the last chunk: the chunks with room, in the series' box. -/
def At9 (R : List Chk) (fl t : Int) (v : Nat) (w : World) (p : Nat) (o : Option Addr) (k : Nat) (wx : World) : Prop :=
  wx.ownsRow (w.heap.size + 3) 85 4 (.slice o R.length k) R.length (cellsG cC R) ∧ Bt wx p (.slice o R.length k) (.int .i64 fl) ∧ Bt wx (w.heap.size + 1) (.int .i64 t) (.float .f64 v) ∧ Bt wx (w.heap.size + 1 + 1) (.slice none 0 0) (.int .i64 0) ∧ Below w.heap.size w wx ∧ (Value.slice o R.length k).ownBlock ≠ some p
theorem fitC_rm {l : List Chk} (h : FitC l 1048576) : FitC (rmL l) 1048576 := by
  unfold rmL; split
  · intro c hc
    rcases List.mem_append.1 hc with e | e
    · exact h c e
    · rw [List.mem_singleton.1 e]; decide
  · exact h
theorem gb_set4 (w : World) (g : Nat) {i j k l : Nat} (a b c d : Value) : w.grownBy ((((w.setCell ⟨g, i, none⟩ a).setCell ⟨g, j, none⟩ b).setCell ⟨g, k, none⟩ c).setCell ⟨g, l, none⟩ d) (some g) :=
  (((gb_set w g i a).trans (gb_set _ g j b)).trans (gb_set _ g k c)).trans (gb_set _ g l d)
theorem below_set4 {B g : Nat} {w w' : World} {i j k l : Nat} (h : Below B w w') (hg : B ≤ g) (a b c d : Value) : Below B w ((((w'.setCell ⟨g, i, none⟩ a).setCell ⟨g, j, none⟩ b).setCell ⟨g, k, none⟩ c).setCell ⟨g, l, none⟩ d) := (((h.setCell (p := ⟨g, i, none⟩) hg _).setCell (p := ⟨g, j, none⟩) hg _).setCell (p := ⟨g, k, none⟩) hg _).setCell (p := ⟨g, l, none⟩) hg _

theorem po_A {wc wa : World} {a b c d : Value} {t : TypeId} (hba : Below wc.drew.heap.size wc.drew wa) : Bx (wa.alloc (.cells #[a, b, c, d] t)) wa.heap.size a b c d ∧ Below wc.heap.size wc (wa.alloc (.cells #[a, b, c, d] t)) ∧ wc.heap.size ≤ wa.heap.size := by
  have hb : Below wc.heap.size wc wa := ((Below.refl wc.heap.size wc).drew).trans hba
  exact ⟨Bx.new wa a b c d t, hb.alloc hb.size _, hb.size⟩
theorem po_B {wc wa : World} {a b c d z0 z1 z2 z3 : Value} {o : Obj} (hba : Below (wc.alloc o).drew.heap.size (wc.alloc o).drew wa) (hN : Bx wa wc.heap.size z0 z1 z2 z3) :
    Bx ((((wa.setCell ⟨wc.heap.size, 0, none⟩ a).setCell ⟨wc.heap.size, 1, none⟩ b).setCell ⟨wc.heap.size, 2, none⟩ c).setCell ⟨wc.heap.size, 3, none⟩ d) wc.heap.size a b c d ∧ Below wc.heap.size wc ((((wa.setCell ⟨wc.heap.size, 0, none⟩ a).setCell ⟨wc.heap.size, 1, none⟩ b).setCell ⟨wc.heap.size, 2, none⟩ c).setCell ⟨wc.heap.size, 3, none⟩ d) ∧ wc.heap.size ≤ wc.heap.size := by
  have h0 := ((Below.refl wc.heap.size wc).alloc (Nat.le_refl _) o).drew
  have hb : Below wc.heap.size wc wa := h0.trans (hba.mono h0.size)
  exact ⟨hN.set4, below_set4 hb (Nat.le_refl _) a b c d, Nat.le_refl _⟩

set_option maxHeartbeats 8000000 in
set_option maxRecDepth 100000 in
theorem putM_yes (ao : Option Addr) (cap : Nat) (l : List Chk) (fl t : Int) (v : Nat) (h6 : l.length ≤ 6) (hF : FitC l 1048576) (hal : allB l = true) (hx : FitS [(t, v)]) (hcd : cdF l fl (t, v) = 0) (w : World) (h : CRow w w.heap.size ao l) :
    Calls Try.prog 56 #[.agg #[.slice ao l.length cap, .int .i64 fl], .agg #[.int .i64 t, .float .f64 v]] w (PuEnd (ptL l fl (t, v)) fl 0 w) := by
  have hst := @run_store_float Try.prog
  have HB0 := Lib.hid ((((Below.refl w.heap.size w).alloc (Nat.le_refl _) (.cells #[.slice ao l.length cap, .int .i64 fl] 29)).alloc (by simp) (.cells #[.int .i64 t, .float .f64 v] 42)).alloc (by simp; omega) (.cells #[.slice none 0 0, .int .i64 0] 29))
  have HX0 := Lib.hid (((Bt.new w (.slice ao l.length cap) (.int .i64 fl) 29).alloc (.cells #[.int .i64 t, .float .f64 v] 42)).alloc (.cells #[.slice none 0 0, .int .i64 0] 29))
  have HY0 := Lib.hid ((Bt.new (w.alloc (.cells #[.slice ao l.length cap, .int .i64 fl] 29)) (.int .i64 t) (.float .f64 v) 42).alloc (.cells #[.slice none 0 0, .int .i64 0] 29))
  have HZ0 := Lib.hid (Bt.new ((w.alloc (.cells #[.slice ao l.length cap, .int .i64 fl] 29)).alloc (.cells #[.int .i64 t, .float .f64 v] 42)) (.slice none 0 0) (.int .i64 0) 29)
  simp only [World.size_alloc] at HY0 HZ0
  have HR0 := Lib.hid (GR.after h HB0.out)
  have HOw := Lib.hid (fun W hW => own59 ao cap l fl (by omega) W hW)
  have HCm := Lib.hid (fun W hW => codeM ao cap l fl t v h6 hF hal W hW)
  have HPt := Lib.hid (ptL_yes hcd)
  have HR6 := Lib.hid (rm_len6 h6 hcd)
  have HRp := Lib.hid (rmL_pos l)
  have HFz : Hid (FitC (rmL l) 1048576) := Lib.hid (fitC_rm hF)
  rw [hcd] at HCm
  have HAd := Lib.hid (fun (c : Chk) (hs : c.1.size ≤ 1048576) W => add38 c.1 c.2.1 c.2.2.1 c.2.2.2 t v hx hs W)
  obtain ⟨i0, hi, hz0, hz1, hz2⟩ := info_parts Try.infoC
  clear h hF hal hcd
  go_enter Try.func56, Try.ntmps56
  go_wp2_with fail
  refine (HOw.out _ HR0.out).mono ?_
  rintro e w2 h2
  obtain ⟨o2, k2, rfl, hO2, hR2, hb2⟩ := made_ser h2
  have hzl : w.heap.size + 2 < w2.heap.size := (HZ0.out.below hb2).lt
  have hW2 := (Below.refl w2.heap.size w2).alloc (Nat.le_refl _) (.cells #[.slice o2 l.length k2, .int .i64 fl] 29)
  have HV2 := Lib.hid (fun k (hk : (Value.slice o2 l.length k2).ownBlock = some k) => hO2.lt k hk)
  have HO2 := Lib.hid (hO2.alloc (.cells #[.slice o2 l.length k2, .int .i64 fl] 29))
  have HB2 := Lib.hid ((HB0.out.trans (hb2.mono HB0.out.size)).trans (hW2.mono (Nat.le_trans HB0.out.size hb2.size)))
  have HX2 := Lib.hid ((HX0.out.below hb2).below hW2)
  have HY2 := Lib.hid ((HY0.out.below hb2).below hW2)
  have HZ2 := Lib.hid ((HZ0.out.below hb2).below hW2)
  have HR2 := Lib.hid (GR.after (GR.after HR0.out hb2) hW2)
  have HP2 := Lib.hid (Bt.new w2 (.slice o2 l.length k2) (.int .i64 fl) 29)
  clear hb2 h2 hO2 hR2 hW2 HB0 HX0 HY0 HZ0 HR0 HOw
  obtain ⟨x0, x1, _⟩ := HX2.out.cells
  obtain ⟨y0, y1, _⟩ := HY2.out.cells
  go_wp2_with fail
  refine (HCm.out _ HR2.out).mono ?_
  rintro e w3 ⟨rfl, hb3⟩
  have HB3 := Lib.hid (HB2.out.trans (hb3.mono HB2.out.size))
  have HO3 := Lib.hid (own_below HO2.out hb3)
  have HP3 := Lib.hid (HP2.out.below hb3)
  have HY3 := Lib.hid (HY2.out.below hb3)
  have HZ3 := Lib.hid (HZ2.out.below hb3)
  have hs3 : w3.heap.size = w3.heap.size := rfl
  have h23 : w2.heap.size < w3.heap.size := HP3.out.lt
  have HVp : Hid ((Value.slice o2 l.length k2).ownBlock ≠ some w2.heap.size) := Lib.hid (fun e => Nat.lt_irrefl _ (HV2.out _ e).2)
  have HO3' : Hid (w3.ownsRow (w.heap.size + 3) 85 4 (.slice o2 l.length k2) l.length (cellsG cC l)) := Lib.hid (own_lower HO3.out (by simp only [World.size_alloc]; omega))
  obtain ⟨b, hb⟩ : ∃ b : Bool, b = decide (l.length = 0 ∨ mF l (l.length - 1) = 8) := ⟨_, rfl⟩
  have HBb := Lib.hid hb
  clear hb hb3 x0 x1 y0 y1 hs3 HO2 HB2 HX2 HY2 HZ2 HR2 HP2 HO3
  obtain ⟨p0, p1, pf0, pf1⟩ := HP3.out.cells
  go_upto_region 6 with fail
  go_cut [34] (fun s wx => s = .bool b ∧ w3 = wx)
  case first =>
    by_cases h0 : l.length = 0
    · have hbt : Hid (b = true) := Lib.hid (by rw [HBb.out]; simp [h0])
      have hz : ((l.length : Int) == 0) = true := beq_iff_eq.2 (by omega)
      clear h0
      go_wp2_with fail
      go_meet
      exact ⟨by rw [hbt.out], rfl⟩
    · obtain ⟨g, cp, hv, hg1, hg2⟩ := HO3'.out.form (by omega)
      injection hv with hv1 hv2 hv3
      subst hv1; subst hv3
      obtain ⟨m, hm⟩ : ∃ m, m + 1 = l.length := ⟨l.length - 1, by omega⟩
      have hml2 : m < l.length := by omega
      have hc1 : w3.cell? ⟨g, m * 4 + 1, none⟩ = some (.int .i64 l[m].2.1) := (HO3'.out.cellAt (m * 4 + 1) (by omega)).trans (cellsG_at cC_len hml2 (show 1 < 4 by omega))
      have hmF : l[m].2.1 = mF l m := mF_at hml2
      have hbt : Hid (b = (l[m].2.1 == 8)) := Lib.hid (by
        rw [HBb.out, hmF, show l.length - 1 = m by omega, Bool.eq_iff_iff, decide_eq_true_eq, beq_iff_eq]
        exact ⟨fun e => by rcases e with e | e; exact absurd e h0; exact e, fun e => .inr e⟩)
      have hnz : ((l.length : Int) == 0) = false := beq_eq_false_iff_ne.2 (by omega)
      have hw1 : (l.length : Int) - 1 = (m : Int) := by omega
      have hm0 : (0 : Int) ≤ (m : Int) := by omega
      have hml : (m : Int) < (l.length : Int) := by omega
      clear hmF h0
      generalize l[m].2.1 = x at hc1 hbt
      go_wp2_with fail
      go_meet
      exact ⟨by rw [hbt.out], rfl⟩
  case rest =>
  obtain ⟨rfl, rfl⟩ := hcut
  go_upto_if 34 with fail
  go_cut [8] (fun s wx => ∃ (o : Option Addr) (k : Nat), s = .int .i64 ((rmL l).length : Nat) ∧ Hid (At9 (rmL l) fl t v w w2.heap.size o k wx))
  case first =>
    cases b with
    | false =>
      have HRo := Lib.hid (rm_old (cs := l) (fun e => by have := HBb.out; rw [decide_eq_true e] at this; cases this))
      go_wp2_with fail
      go_meet
      refine ⟨o2, k2, by rw [HRo.out], Lib.hid ?_⟩
      rw [HRo.out]
      exact ⟨HO3'.out, HP3.out, HY3.out, HZ3.out, HB3.out, HVp.out⟩
    | true =>
      have HRn := Lib.hid (rm_new (cs := l) (of_decide_eq_true HBb.out.symm))
      go_wp2_with (at_builtin; refine wpList_append_more _ rfl _ _ rfl Try.underlying27 hi hz0 hz1 hz2 rfl (by decide) (w.heap.size + 3) _ _ _ rfl (HO3'.out.alloc _) (some ⟨w3.heap.size, 0, none⟩) 1 1 (cC zeroC) rfl (src_four w3 _ _ _ _ _) (cC_ones _) ?k3 ?k4 ?k5 ?_)
      case k3 => unfold maxLen; omega
      case k4 => omega
      case k5 => simp; omega
      intro v' w4 hown' hgrow hv'
      obtain ⟨o', c', hvs⟩ := own_slice hown'
      subst hvs
      have HA : Hid (w4.ownsRow (w.heap.size + 3) 85 4 (.slice o' (l.length + 1) c') (l ++ [zeroC]).length (cellsG cC (l ++ [zeroC]))) := Lib.hid (by rw [cellsG_snoc, List.length_append]; exact hown')
      have HVn : Hid ((Value.slice o' (l.length + 1) c').ownBlock ≠ some w2.heap.size) := Lib.hid (fun e => by
        rcases hv' with h | h
        · rw [e] at h; exact HVp.out h.symm
        · rw [e] at h; injection h with h; (try simp at h); omega)
      have HBo := Lib.hid (own_grown (HB3.out.alloc HB3.out.size _) (HO3'.out.alloc (.cells #[.string ⟨#[]⟩, .int .i64 0, .int .i64 0, .int .i64 0] 85)) hgrow (by omega))
      have HPo := Lib.hid ((HP3.out.alloc (.cells #[.string ⟨#[]⟩, .int .i64 0, .int .i64 0, .int .i64 0] 85)).apart hgrow HVp.out)
      have HYo := Lib.hid ((HY3.out.alloc (.cells #[.string ⟨#[]⟩, .int .i64 0, .int .i64 0, .int .i64 0] 85)).apart hgrow (fun e => by have := (HV2.out _ e).1; simp only [World.size_alloc] at this; omega))
      have HZo := Lib.hid ((HZ3.out.alloc (.cells #[.string ⟨#[]⟩, .int .i64 0, .int .i64 0, .int .i64 0] 85)).apart hgrow (fun e => by have := (HV2.out _ e).1; simp only [World.size_alloc] at this; omega))
      clear hown' hgrow hv' p0 p1 pf0 pf1
      obtain ⟨p0, p1, pf0, pf1⟩ := HPo.out.cells
      go_wp2_with fail
      go_meet
      refine ⟨o', c', by rw [HRn.out, List.length_append, List.length_singleton]; go_num, Lib.hid ?_⟩
      have e1 : (rmL l).length = l.length + 1 := by rw [HRn.out, List.length_append, List.length_singleton]
      unfold At9
      rw [e1, HRn.out]
      refine ⟨?_, Bt.put HPo.out, HYo.out.far1 (by omega), HZo.out.far1 (by omega), HBo.out.setCell (by dsimp only; omega) _, HVn.out⟩
      have h1 := own_put (i := 0) (u := .slice o' (l.length + 1) c') HA.out HVn.out
      rw [List.length_append, List.length_singleton] at h1
      exact h1
  case rest =>
  obtain ⟨o, k, rfl, HAt⟩ := hcut
  clear p0 p1 pf0 pf1 HO3' HP3 HY3 HZ3 HB3 HVp HV2
  generalize rmL l = R at HPt HR6 HRp HFz HAt ⊢
  have hRp := HRp.out; have hR6 := HR6.out
  obtain ⟨m, hm⟩ : ∃ m, m + 1 = R.length := ⟨R.length - 1, by omega⟩
  have hml2 : m < R.length := by omega
  rw [show R.length - 1 = m by omega] at HPt
  have hAt := HAt.out
  obtain ⟨hO, hP, hY, hZ, hB, hV⟩ := hAt
  obtain ⟨g, cp, hv, hg1, hg2⟩ := hO.form (by omega)
  injection hv with hv1 hv2 hv3
  subst hv1; subst hv3
  have HO := Lib.hid hO; have HP := Lib.hid hP; have HY := Lib.hid hY; have HZ := Lib.hid hZ; have HB := Lib.hid hB
  have hgp : g ≠ w2.heap.size := fun e => hV (by rw [e]; rfl)
  have hcell : ∀ j, j < 4 → wc.cell? ⟨g, m * 4 + j, none⟩ = (cC R[m])[j]? := fun j hj => (hO.cellAt (m * 4 + j) (by omega)).trans (cellsG_at cC_len hml2 hj)
  have hc0 : wc.cell? ⟨g, m * 4, none⟩ = some (.string R[m].1) := hcell 0 (by omega)
  have hc1 : wc.cell? ⟨g, m * 4 + 1, none⟩ = some (.int .i64 R[m].2.1) := hcell 1 (by omega)
  have hc2 : wc.cell? ⟨g, m * 4 + 2, none⟩ = some (.int .i64 R[m].2.2.1) := hcell 2 (by omega)
  have hc3 : wc.cell? ⟨g, m * 4 + 3, none⟩ = some (.int .i64 R[m].2.2.2) := hcell 3 (by omega)
  have hw1 : (R.length : Int) - 1 = (m : Int) := by omega
  have hm0 : (0 : Int) ≤ (m : Int) := by omega
  have hml : (m : Int) < (R.length : Int) := by omega
  have hwm : IntKind.i64.wrap (m : Int) = (m : Int) := IntWalk.i64_in _ (by omega)
  have hsz : R[m].1.size ≤ 1048576 := HFz.out.at hml2
  have HAd2 := Lib.hid (fun W => HAd.out R[m] hsz W)
  unfold AdEnd at HAd2
  have HQe : Hid (ptL l fl (t, v) = R.set m (adC R[m] (t, v))) := Lib.hid (by rw [HPt.out]; simp [List.getD, hml2])
  generalize hqq : adC (R[m].1, R[m].2.1, R[m].2.2.1, R[m].2.2.2) (t, v) = q at HAd2
  have hqq' : adC R[m] (t, v) = q := hqq
  rw [hqq'] at HQe
  generalize adB (R[m].1, R[m].2.1, R[m].2.2.1, R[m].2.2.2) (t, v) = bb at HAd2
  obtain ⟨q0, q1, q2, q3⟩ := q
  simp only [chV] at HAd2
  clear hqq hqq' hcell hO hP hY hZ hB hV HAt
  obtain ⟨p0, p1, pf0, pf1⟩ := HP.out.cells
  obtain ⟨y0, y1, _⟩ := HY.out.cells
  have hba0 := ((Below.refl wc.heap.size wc).alloc (Nat.le_refl _) (.cells #[zS, zI, zI, zI] 85)).drew
  obtain ⟨p2, p3, _⟩ := (HP.out.below hba0).cells
  obtain ⟨y2, y3, _⟩ := (HY.out.below hba0).cells
  obtain ⟨d0, d1, d2, d3⟩ : (wc.alloc (.cells #[zS, zI, zI, zI] 85)).drew.cell? ⟨g, m * 4, none⟩ = some (.string R[m].1) ∧ (wc.alloc (.cells #[zS, zI, zI, zI] 85)).drew.cell? ⟨g, m * 4 + 1, none⟩ = some (.int .i64 R[m].2.1) ∧ (wc.alloc (.cells #[zS, zI, zI, zI] 85)).drew.cell? ⟨g, m * 4 + 2, none⟩ = some (.int .i64 R[m].2.2.1) ∧ (wc.alloc (.cells #[zS, zI, zI, zI] 85)).drew.cell? ⟨g, m * 4 + 3, none⟩ = some (.int .i64 R[m].2.2.2) := by
    have hh := (hba0.block g hg2)
    refine ⟨?_, ?_, ?_, ?_⟩ <;> (simp only [World.cell?, hh] at hc0 hc1 hc2 hc3 ⊢; assumption)
  go_upto_region 9 with fail
  go_cut [9] (fun s wx => ∃ p : Nat, s = .pointer (some ⟨p, 0, none⟩) ∧ Hid (Bx wx p (.string q0) (.int .i64 q1) (.int .i64 q2) (.int .i64 q3) ∧ Below wc.heap.size wc wx ∧ wc.heap.size ≤ p))
  case first =>
    go_region_law (first
      | (go_simp; go_at_call 80; refine (HAd2.out _).mono ?_; rintro e wa ⟨rfl, hba⟩; (try (have HN : Bx wa wc.heap.size zS zI zI zI := ((Bx.new wc zS zI zI zI 85).below ((Below.refl (wc.alloc (.cells #[zS, zI, zI, zI] 85)).heap.size (wc.alloc (.cells #[zS, zI, zI, zI] 85))).drew)).below hba; obtain ⟨n0, n1, n2, n3, nf0, nf1, nf2, nf3⟩ := HN.cells))))
    all_goals
      go_wp2_with fail
      go_meet
    all_goals first | (with_reducible exact ⟨_, rfl, Lib.hid (po_A hba)⟩) | (with_reducible exact ⟨_, rfl, Lib.hid (po_B hba HN)⟩)
  case rest =>
  obtain ⟨p, rfl, HC⟩ := hcut
  clear p0 p1 pf0 pf1 y0 y1 p2 p3 y2 y3 d0 d1 d2 d3 hba0 hc0 hc1 hc2 hc3 HAd HAd2 HCm HY
  obtain ⟨hXb, hbw, hpp⟩ := HC.out
  have HXb := Lib.hid hXb
  have HO5 := Lib.hid (own_below HO.out hbw); have HP5 := Lib.hid (HP.out.below hbw); have HZ5 := Lib.hid (HZ.out.below hbw); have HB5 := Lib.hid (HB.out.trans (hbw.mono HB.out.size))
  have hgpp : g ≠ p := by omega
  have hgz : g ≠ w.heap.size + 1 + 1 := by omega
  clear hXb hbw hpp HC HO HP HZ HB
  obtain ⟨b0, b1, b2, b3, _⟩ := HXb.out.cells
  obtain ⟨p0, p1, pf0, pf1⟩ := HP5.out.cells
  obtain ⟨z0, z1, zf0, zf1⟩ := HZ5.out.cells
  have f0 := HO5.out.frozenAt (m * 4)
  have f1 := HO5.out.frozenAt (m * 4 + 1)
  have f2 := HO5.out.frozenAt (m * 4 + 2)
  have f3 := HO5.out.frozenAt (m * 4 + 3)
  have hcell5 : ∀ j, j < 4 → wc.cell? ⟨g, m * 4 + j, none⟩ = (cC R[m])[j]? := fun j hj => (HO5.out.cellAt (m * 4 + j) (by omega)).trans (cellsG_at cC_len hml2 hj)
  have e0 : wc.cell? ⟨g, m * 4, none⟩ = some (.string R[m].1) := hcell5 0 (by omega)
  have e1 : wc.cell? ⟨g, m * 4 + 1, none⟩ = some (.int .i64 R[m].2.1) := hcell5 1 (by omega)
  have e2 : wc.cell? ⟨g, m * 4 + 2, none⟩ = some (.int .i64 R[m].2.2.1) := hcell5 2 (by omega)
  have e3 : wc.cell? ⟨g, m * 4 + 3, none⟩ = some (.int .i64 R[m].2.2.2) := hcell5 3 (by omega)
  clear hcell5
  have HOs := Lib.hid (own_store4 (q0, q1, q2, q3) HO5.out hml2)
  have HGb := Lib.hid (gb_set4 wc g (i := m * 4) (j := m * 4 + 1) (k := m * 4 + 2) (l := m * 4 + 3) (.string q0) (.int .i64 q1) (.int .i64 q2) (.int .i64 q3))
  have HPs := Lib.hid (HP5.out.apart HGb.out (fun e => by injection e with e; exact hgp e))
  have HZs := Lib.hid (HZ5.out.apart HGb.out (fun e => by injection e with e; exact hgz e))
  have HBs := Lib.hid (below_set4 (i := m * 4) (j := m * 4 + 1) (k := m * 4 + 2) (l := m * 4 + 3) HB5.out (show w.heap.size ≤ g by omega) (.string q0) (.int .i64 q1) (.int .i64 q2) (.int .i64 q3))
  go_upto_region 10 with fail
  go_cut [] (fun wx => Hid (wx.ownsRow (w.heap.size + 3) 85 4 (.slice (some ⟨g, 0, none⟩) R.length k) R.length (cellsG cC (R.set m (q0, q1, q2, q3))) ∧ Bt wx w2.heap.size (.slice (some ⟨g, 0, none⟩) R.length k) (.int .i64 fl) ∧ Bt wx (w.heap.size + 1 + 1) (.slice none 0 0) (.int .i64 0) ∧ Below w.heap.size w wx))
  case first =>
    go_wp2_with fail
    go_meet
    exact Lib.hid ⟨HOs.out, HPs.out, HZs.out, HBs.out⟩
  case rest =>
  obtain ⟨hO7, hP7, hZ7, hB7⟩ := hcut.out
  have HO7 := Lib.hid hO7; have HB7 := Lib.hid hB7
  clear e0 e1 e2 e3 b0 b1 b2 b3 p0 p1 pf0 pf1 z0 z1 zf0 zf1 f0 f1 f2 f3 HOs HGb HPs HZs HBs hO7 hB7 HXb HO5 HP5 HZ5 HB5
  obtain ⟨p0, p1, pf0, pf1⟩ := hP7.cells
  obtain ⟨z0, z1, zf0, zf1⟩ := hZ7.cells
  clear hP7 hZ7 hcut
  go_wp2
  refine bodyPost_ret (v := .tuple #[.agg #[.slice (some ⟨g, 0, none⟩) R.length k, .int .i64 fl], .int .i64 0]) (by simp [results, Try.results56, go_sem, z0, z1]) rfl ?_
  rw [HQe.out]
  exact pu_end (by rw [List.length_set]; exact own_lower (own_set (own_set HO7.out (by omega)) (by omega)) (by omega)) (set2_belowT HB7.out (by omega))
end Go.Proofs.Yteiefngamccapaa
