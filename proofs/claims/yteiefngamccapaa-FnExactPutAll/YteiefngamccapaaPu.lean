/- The program's putting of a sample into a series that it owns: the code, and the chunks that it comes to. -/
import Derived.Test.YteiefngamccapaaPo
import Derived.Test.YteiefngamccapaaPi6
namespace Go.Proofs.Yteiefngamccapaa
open Go.RowKit Go.Deep

/-- What putting a sample into a series behind a pointer comes to. -/
def PiEnd (base p : Nat) (cs : List Chk) (f c : Int) (w : World) (e : Ending) (w' : World) : Prop :=
  ∃ (o : Option Addr) (k : Nat), e = .returned (.int .i64 c) ∧ w'.ownsRow base 85 4 (.slice o cs.length k) cs.length (cellsG cC cs) ∧ Bt w' p (.slice o cs.length k) (.int .i64 f) ∧ (Value.slice o cs.length k).ownBlock ≠ some p ∧ Below base w w'
theorem room_old {l : List Chk} (h : roomB l = true) : ¬ (l.length = 0 ∨ mF l (l.length - 1) = 8) := by
  unfold roomB at h
  simp only [Bool.and_eq_true, decide_eq_true_eq] at h
  omega
theorem room_new {l : List Chk} (hal : allB l = true) (h : roomB l = false) : l.length = 0 ∨ mF l (l.length - 1) = 8 := by
  by_cases h0 : l.length = 0
  · exact .inl h0
  · have := mF_le hal (k := l.length - 1) (by omega)
    unfold roomB at h
    rw [decide_eq_true (show 0 < l.length by omega), Bool.true_and, decide_eq_false_iff_not] at h
    exact .inr (by omega)
theorem own_below2 {w w' : World} {base : Nat} {e : TypeId} {s n : Nat} {v : Value} {xs : List Value} (h : w.ownsRow base e s v n xs) (hb : Below w.heap.size w w') : w'.ownsRow base e s v n xs := own_below h hb

set_option maxHeartbeats 8000000 in
set_option maxRecDepth 100000 in
theorem putI_no (base p : Nat) (o : Option Addr) (k : Nat) (l : List Chk) (fl t : Int) (v : Nat) (h6 : l.length ≤ 6) (hF : FitC l 1048576) (hal : allB l = true) (hcd : cdF l fl (t, v) ≠ 0) (w : World) (hbw : base ≤ w.heap.size)
    (hp : Bt w p (.slice o l.length k) (.int .i64 fl)) (ho : w.ownsRow base 85 4 (.slice o l.length k) l.length (cellsG cC l)) (hv : (Value.slice o l.length k).ownBlock ≠ some p) :
    Calls Try.prog 58 #[.pointer (some ⟨p, 0, none⟩), .agg #[.int .i64 t, .float .f64 v]] w (PiEnd base p l fl (cdF l fl (t, v)) w) := by
  have hst := @run_store_float Try.prog
  have HB0 := Lib.hid ((Below.refl base w).alloc hbw (.cells #[.int .i64 t, .float .f64 v] 42))
  have HO0 := Lib.hid (ho.alloc (.cells #[.int .i64 t, .float .f64 v] 42)); have HP0 := Lib.hid (hp.alloc (.cells #[.int .i64 t, .float .f64 v] 42))
  have HCd := Lib.hid (fun W h1 h2 => codeI p o k l fl t v h6 hF hal W h1 h2)
  have HV := Lib.hid hv
  generalize cdF l fl (t, v) = cd at HCd hcd ⊢
  have hne : (cd == 0) = false := beq_eq_false_iff_ne.2 hcd
  clear hp ho hv hcd hF hal
  go_enter Try.func58, Try.ntmps58
  go_wp2_with fail
  refine (HCd.out _ HP0.out (GR.of_own cC_len HO0.out)).mono ?_
  rintro e w1 ⟨rfl, hb1⟩
  have HO1 := Lib.hid (own_below HO0.out hb1); have HP1 := Lib.hid (HP0.out.below hb1); have HB1 := Lib.hid (HB0.out.trans (hb1.mono (Nat.le_trans hbw HB0.out.size)))
  clear hb1
  go_wp2
  go_ret
  exact ⟨o, k, rfl, HO1.out, HP1.out, HV.out, HB1.out⟩

set_option maxHeartbeats 8000000 in
set_option maxRecDepth 100000 in
theorem putI_yes (base p : Nat) (o : Option Addr) (k : Nat) (l : List Chk) (fl t : Int) (v : Nat) (h6 : l.length ≤ 6) (hF : FitC l 1048576) (hal : allB l = true) (hx : FitS [(t, v)]) (hcd : cdF l fl (t, v) = 0) (hbp : base ≤ p) (w : World) (hbw : base ≤ w.heap.size)
    (hp : Bt w p (.slice o l.length k) (.int .i64 fl)) (ho : w.ownsRow base 85 4 (.slice o l.length k) l.length (cellsG cC l)) (hv : (Value.slice o l.length k).ownBlock ≠ some p) :
    Calls Try.prog 58 #[.pointer (some ⟨p, 0, none⟩), .agg #[.int .i64 t, .float .f64 v]] w (PiEnd base p (ptL l fl (t, v)) fl 0 w) := by
  have hst := @run_store_float Try.prog
  have HB0 := Lib.hid ((Below.refl base w).alloc hbw (.cells #[.int .i64 t, .float .f64 v] 42))
  have HO0 := Lib.hid (ho.alloc (.cells #[.int .i64 t, .float .f64 v] 42)); have HP0 := Lib.hid (hp.alloc (.cells #[.int .i64 t, .float .f64 v] 42))
  have HY0 := Lib.hid (Bt.new w (.int .i64 t) (.float .f64 v) 42)
  have HVw := Lib.hid (fun kk (hk : (Value.slice o l.length k).ownBlock = some kk) => (ho.lt kk hk).2)
  have HCd := Lib.hid (fun W h1 h2 => codeI p o k l fl t v h6 hF hal W h1 h2)
  have HRo := Lib.hid (fun W h1 h2 => room82 p o k l fl (by omega) W h1 h2)
  have HV := Lib.hid hv
  have HPt := Lib.hid (ptL_yes hcd)
  have HR6 := Lib.hid (rm_len6 h6 hcd)
  have HRp := Lib.hid (rmL_pos l)
  have HFz : Hid (FitC (rmL l) 1048576) := Lib.hid (fitC_rm hF)
  have HAd := Lib.hid (fun (c : Chk) (hs : c.1.size ≤ 1048576) W => add31 c.1 c.2.1 c.2.2.1 c.2.2.2 t v hx hs W)
  have HOld := Lib.hid (fun h => rm_old (room_old (l := l) h)); have HNew := Lib.hid (fun h => rm_new (room_new (l := l) hal h))
  have hpw : p < w.heap.size := hp.lt
  rw [hcd] at HCd
  obtain ⟨i0, hi, hz0, hz1, hz2⟩ := info_parts Try.infoC
  clear hp ho hv hcd hF hal
  go_enter Try.func58, Try.ntmps58
  go_wp2_with fail
  refine (HCd.out _ HP0.out (GR.of_own cC_len HO0.out)).mono ?_
  rintro e w1 ⟨rfl, hb1⟩
  have HO1 := Lib.hid (own_below HO0.out hb1); have HP1 := Lib.hid (HP0.out.below hb1); have HY1 := Lib.hid (HY0.out.below hb1); have HB1 := Lib.hid (HB0.out.trans (hb1.mono (Nat.le_trans hbw HB0.out.size)))
  have hw01 : w.heap.size < w1.heap.size := HY1.out.lt
  clear hb1 HO0 HP0 HY0 HB0 HCd
  generalize roomB l = rb at HRo HOld HNew
  go_wp2_with fail
  refine (HRo.out _ HP1.out (GR.of_own cC_len HO1.out)).mono ?_
  rintro e w2 ⟨rfl, q2, rfl⟩
  have HO2 := Lib.hid (own_drewN HO1.out q2); have HP2 := Lib.hid (HP1.out.drewN q2); have HY2 := Lib.hid (HY1.out.drewN q2); have HB2 := Lib.hid (below_drewN HB1.out q2)
  have hw02 : w.heap.size < (w1.drewN q2).heap.size := HY2.out.lt
  clear HO1 HP1 HY1 HB1 HRo hw01
  generalize w1.drewN q2 = w2 at HO2 HP2 HY2 HB2 hw02
  cases rb with
  | true =>
    have hR := HOld.out rfl
    rw [hR] at HPt HR6 HRp HFz
    clear hR HOld HNew
    have HO5 := HO2; have HP5 := HP2; have HY5 := HY2; have HB5 := HB2; have HV5 := HV
    clear HO2 HP2 HY2 HB2 HV HVw
    have hRp := HRp.out; have hR6 := HR6.out
    obtain ⟨m, hm⟩ : ∃ m, m + 1 = l.length := ⟨l.length - 1, by omega⟩
    have hml2 : m < l.length := by omega
    rw [show l.length - 1 = m by omega] at HPt
    have hsz : l[m].1.size ≤ 1048576 := HFz.out.at hml2
    have HAd2 := Lib.hid (fun W => HAd.out l[m] hsz W)
    unfold AdEnd at HAd2
    have HQe : Hid (ptL l fl (t, v) = l.set m (adC l[m] (t, v))) := Lib.hid (by rw [HPt.out]; simp [List.getD, hml2])
    generalize hqq : adC (l[m].1, l[m].2.1, l[m].2.2.1, l[m].2.2.2) (t, v) = q at HAd2
    have hqq' : adC l[m] (t, v) = q := hqq
    rw [hqq'] at HQe
    generalize adB (l[m].1, l[m].2.1, l[m].2.2.1, l[m].2.2.2) (t, v) = bb at HAd2
    obtain ⟨q0, q1, q2, q3⟩ := q
    simp only [chV] at HAd2
    clear hqq hqq' HAd
    obtain ⟨g, cp, hgv, hg1, hg2⟩ := HO5.out.form (by omega)
    injection hgv with hv1 hv2 hv3
    subst hv1; subst hv3
    have hgp : g ≠ p := fun e => HV5.out (by rw [e]; rfl)
    have HLc := Lib.hid (fun W hW => last_some p g 0 k l.length m fl hm (by omega) W hW)
    rw [Nat.zero_add] at HLc
    go_wp2_with fail
    refine (HLc.out _ HP5.out).mono ?_
    rintro e w6 ⟨rfl, qd, rfl⟩
    have HO6 := Lib.hid (own_drewN HO5.out qd); have HP6 := Lib.hid (HP5.out.drewN qd); have HY6 := Lib.hid (HY5.out.drewN qd); have HB6 := Lib.hid (below_drewN HB5.out qd)
    clear HO5 HP5 HY5 HB5 HLc
    generalize w2.drewN qd = w6 at HO6 HP6 HY6 HB6
    have hcell : ∀ (W : World), W.ownsRow base 85 4 (.slice (some ⟨g, 0, none⟩) l.length k) l.length (cellsG cC l) → ∀ j, j < 4 → W.cell? ⟨g, m * 4 + j, none⟩ = (cC l[m])[j]? := fun W hW j hj => (hW.cellAt (m * 4 + j) (by omega)).trans (cellsG_at cC_len hml2 hj)
    have HCe := Lib.hid hcell
    have c0 : w6.cell? ⟨g, m * 4, none⟩ = some (.string l[m].1) := hcell _ HO6.out 0 (by omega)
    have c1 : w6.cell? ⟨g, m * 4 + 1, none⟩ = some (.int .i64 l[m].2.1) := hcell _ HO6.out 1 (by omega)
    have c2 : w6.cell? ⟨g, m * 4 + 2, none⟩ = some (.int .i64 l[m].2.2.1) := hcell _ HO6.out 2 (by omega)
    have c3 : w6.cell? ⟨g, m * 4 + 3, none⟩ = some (.int .i64 l[m].2.2.2) := hcell _ HO6.out 3 (by omega)
    clear hcell
    obtain ⟨y0, y1, _⟩ := HY6.out.cells
    have hb6 := (Below.refl w6.heap.size w6).drew
    go_upto_region 7 with fail
    go_cut [] (fun wx => Hid (wx.ownsRow base 85 4 (.slice (some ⟨g, 0, none⟩) l.length k) l.length (cellsG cC (l.set m (q0, q1, q2, q3))) ∧ Bt wx p (.slice (some ⟨g, 0, none⟩) l.length k) (.int .i64 fl) ∧ Below base w wx))
    case first =>
      go_region_law (first
        | (go_simp; go_at_call 83; refine (HAd2.out _).mono ?_; rintro e wa ⟨rfl, hba⟩; have hbb := hb6.trans (hba.mono hb6.size); have HOa := Lib.hid (own_below HO6.out hbb); have f0 := HOa.out.frozenAt (m * 4); have f1 := HOa.out.frozenAt (m * 4 + 1); have f2 := HOa.out.frozenAt (m * 4 + 2); have f3 := HOa.out.frozenAt (m * 4 + 3); have e0 : wa.cell? ⟨g, m * 4, none⟩ = some (.string l[m].1) := HCe.out _ HOa.out 0 (by omega); have e1 : wa.cell? ⟨g, m * 4 + 1, none⟩ = some (.int .i64 l[m].2.1) := HCe.out _ HOa.out 1 (by omega); have e2 : wa.cell? ⟨g, m * 4 + 2, none⟩ = some (.int .i64 l[m].2.2.1) := HCe.out _ HOa.out 2 (by omega); have e3 : wa.cell? ⟨g, m * 4 + 3, none⟩ = some (.int .i64 l[m].2.2.2) := HCe.out _ HOa.out 3 (by omega)))
      all_goals
        have HOs := Lib.hid (own_store4 (q0, q1, q2, q3) HOa.out hml2)
        have HPs := Lib.hid ((HP6.out.below hbb).apart (gb_set4 wa g (i := m * 4) (j := m * 4 + 1) (k := m * 4 + 2) (l := m * 4 + 3) (.string q0) (.int .i64 q1) (.int .i64 q2) (.int .i64 q3)) (fun e => by injection e with e; exact hgp e))
        have HBs := Lib.hid (below_set4 (i := m * 4) (j := m * 4 + 1) (k := m * 4 + 2) (l := m * 4 + 3) (HB6.out.trans (hbb.mono (Nat.le_trans hbw HB6.out.size))) hg1 (.string q0) (.int .i64 q1) (.int .i64 q2) (.int .i64 q3))
        go_wp2_with fail
        go_meet
        exact Lib.hid ⟨HOs.out, HPs.out, HBs.out⟩
    case rest =>
    obtain ⟨hO7, hP7, hB7⟩ := hcut.out
    have HE : Hid (PiEnd base p (ptL l fl (t, v)) fl 0 w (.returned (.int .i64 0)) wc) := Lib.hid (by
      rw [HQe.out]
      refine ⟨some ⟨g, 0, none⟩, k, rfl, ?_, ?_, ?_, hB7⟩
      · rw [List.length_set]; exact hO7
      · rw [List.length_set]; exact hP7
      · exact fun e => hgp (by injection e))
    clear hO7 hP7 hB7 hcut c0 c1 c2 c3 y0 y1 hb6
    go_wp2
    go_ret
    exact HE.out
  | false =>
    have hR := HNew.out rfl
    have HRl : Hid ((l ++ [zeroC]).length = l.length + 1) := Lib.hid (by rw [List.length_append, List.length_singleton])
    rw [hR] at HPt HR6 HRp HFz
    clear hR HOld HNew
    obtain ⟨p0, p1, pf0, pf1⟩ := HP2.out.cells
    have hb0 := (Below.refl w2.heap.size w2).drew
    have HSz := HB2.out.size
    go_wp2_with fail
    go_region_law (first
        | (refine step_append_any _ rfl _ _ rfl Try.underlying27 hi hz0 hz1 hz2 rfl (by decide) base _ _ _ rfl ((own_below HO2.out hba).alloc _) (some ⟨wa.heap.size, 0, none⟩) 1 1 (cC zeroC) rfl (src_four _ _ _ _ _ _) (cC_ones _) (by unfold maxLen; omega) (by omega) (by simp; omega) ?_; intro v' w3 hown' hgrow hv'; obtain ⟨o', c', rfl⟩ := own_slice hown'; have HP3 := Lib.hid (((HP2.out.below hba).alloc (.cells #[zS, zI, zI, zI] 85)).apart hgrow HV.out); obtain ⟨q0, q1, qf0, qf1⟩ := HP3.out.cells)
        | (go_simp; go_at_call 65; refine (new30 _).mono ?_; rintro e wa ⟨rfl, hba'⟩; have hba := hb0.trans hba'; clear hba'; have hsa := hba.size; obtain ⟨u0, u1, _⟩ := (HP2.out.below hba).cells; obtain ⟨u2, u3, _⟩ := ((HP2.out.below hba).alloc (.cells #[zS, zI, zI, zI] 85)).cells))
    all_goals
    have HO3 : Hid (w3.ownsRow base 85 4 (.slice o' (l.length + 1) c') (l ++ [zeroC]).length (cellsG cC (l ++ [zeroC]))) := Lib.hid (by rw [cellsG_snoc, List.length_append]; exact hown')
    have HVn : Hid ((Value.slice o' (l.length + 1) c').ownBlock ≠ some p) := Lib.hid (fun e => by
      rcases hv' with h | h
      · rw [e] at h; exact HV.out h.symm
      · rw [e] at h; injection h with h; (try simp at h); have := HP2.out.lt; omega)
    have HBa := Lib.hid ((HB2.out.trans (hba.mono (Nat.le_trans hbw HB2.out.size))).alloc (Nat.le_trans (Nat.le_trans hbw HB2.out.size) hba.size) (.cells #[zS, zI, zI, zI] 85))
    have HB5 := Lib.hid ((HBa.out.grown hgrow (Nat.le_trans hbw HBa.out.size) (fun kk hk => (HO2.out.lt kk hk).1)).setCell (p := ⟨p, 0, none⟩) hbp (.slice o' (l.length + 1) c'))
    have HY5 := Lib.hid ((((HY2.out.below hba).alloc (.cells #[zS, zI, zI, zI] 85)).apart hgrow (fun e => by have := HVw.out _ e; omega)).far1 (i := 0) (v := .slice o' (l.length + 1) c') (show w.heap.size ≠ p by omega))
    have HO5 := Lib.hid (own_put (i := 0) (u := .slice o' (l.length + 1) c') HO3.out HVn.out)
    have HP5 := Lib.hid (Bt.put (v := .slice o' (l.length + 1) c') HP3.out)
    have HV5 := HVn
    rw [← HRl.out] at HV5
    have hRl := HRl.out
    clear hown' hgrow hv' HO3 HVn HBa HP3 p0 p1 pf0 pf1 q0 q1 qf0 qf1 u0 u1 u2 u3 hba hsa hb0 HSz HO2 HP2 HY2 HB2 HV HVw HRl
    generalize w3.setCell ⟨p, 0, none⟩ (.slice o' (l.length + 1) c') = w5 at HO5 HP5 HY5 HB5 ⊢
    rw [← hRl] at HO5 HP5
    clear hRl
    generalize l ++ [zeroC] = R at HPt HR6 HRp HFz HO5 HP5 HV5
    have hRp := HRp.out; have hR6 := HR6.out
    obtain ⟨m, hm⟩ : ∃ m, m + 1 = R.length := ⟨R.length - 1, by omega⟩
    have hml2 : m < R.length := by omega
    rw [show R.length - 1 = m by omega] at HPt
    have hsz : R[m].1.size ≤ 1048576 := HFz.out.at hml2
    have HAd2 := Lib.hid (fun W => HAd.out R[m] hsz W)
    unfold AdEnd at HAd2
    have HQe : Hid (ptL l fl (t, v) = R.set m (adC R[m] (t, v))) := Lib.hid (by rw [HPt.out]; simp [List.getD, hml2])
    generalize hqq : adC (R[m].1, R[m].2.1, R[m].2.2.1, R[m].2.2.2) (t, v) = q at HAd2
    have hqq' : adC R[m] (t, v) = q := hqq
    rw [hqq'] at HQe
    generalize adB (R[m].1, R[m].2.1, R[m].2.2.1, R[m].2.2.2) (t, v) = bb at HAd2
    obtain ⟨q0, q1, q2, q3⟩ := q
    simp only [chV] at HAd2
    clear hqq hqq' HAd
    obtain ⟨g, cp, hgv, hg1, hg2⟩ := HO5.out.form (by omega)
    injection hgv with hv1 hv2 hv3
    subst hv1; subst hv3
    have hgp : g ≠ p := fun e => HV5.out (by rw [e]; rfl)
    have HLc := Lib.hid (fun W hW => last_some p g 0 c' R.length m fl hm (by omega) W hW)
    rw [Nat.zero_add] at HLc
    go_wp2_with fail
    refine (HLc.out _ HP5.out).mono ?_
    rintro e w6 ⟨rfl, qd, rfl⟩
    have HO6 := Lib.hid (own_drewN HO5.out qd); have HP6 := Lib.hid (HP5.out.drewN qd); have HY6 := Lib.hid (HY5.out.drewN qd); have HB6 := Lib.hid (below_drewN HB5.out qd)
    clear HO5 HP5 HY5 HB5 HLc
    generalize w5.drewN qd = w6 at HO6 HP6 HY6 HB6
    have hcell : ∀ (W : World), W.ownsRow base 85 4 (.slice (some ⟨g, 0, none⟩) R.length c') R.length (cellsG cC R) → ∀ j, j < 4 → W.cell? ⟨g, m * 4 + j, none⟩ = (cC R[m])[j]? := fun W hW j hj => (hW.cellAt (m * 4 + j) (by omega)).trans (cellsG_at cC_len hml2 hj)
    have HCe := Lib.hid hcell
    have c0 : w6.cell? ⟨g, m * 4, none⟩ = some (.string R[m].1) := hcell _ HO6.out 0 (by omega)
    have c1 : w6.cell? ⟨g, m * 4 + 1, none⟩ = some (.int .i64 R[m].2.1) := hcell _ HO6.out 1 (by omega)
    have c2 : w6.cell? ⟨g, m * 4 + 2, none⟩ = some (.int .i64 R[m].2.2.1) := hcell _ HO6.out 2 (by omega)
    have c3 : w6.cell? ⟨g, m * 4 + 3, none⟩ = some (.int .i64 R[m].2.2.2) := hcell _ HO6.out 3 (by omega)
    clear hcell
    obtain ⟨y0, y1, _⟩ := HY6.out.cells
    have hb6 := (Below.refl w6.heap.size w6).drew
    go_upto_region 7 with fail
    go_cut [] (fun wx => Hid (wx.ownsRow base 85 4 (.slice (some ⟨g, 0, none⟩) R.length c') R.length (cellsG cC (R.set m (q0, q1, q2, q3))) ∧ Bt wx p (.slice (some ⟨g, 0, none⟩) R.length c') (.int .i64 fl) ∧ Below base w wx))
    case first =>
      go_region_law (first
        | (go_simp; go_at_call 83; refine (HAd2.out _).mono ?_; rintro e wa ⟨rfl, hba⟩; have hbb := hb6.trans (hba.mono hb6.size); have HOa := Lib.hid (own_below HO6.out hbb); have f0 := HOa.out.frozenAt (m * 4); have f1 := HOa.out.frozenAt (m * 4 + 1); have f2 := HOa.out.frozenAt (m * 4 + 2); have f3 := HOa.out.frozenAt (m * 4 + 3); have e0 : wa.cell? ⟨g, m * 4, none⟩ = some (.string R[m].1) := HCe.out _ HOa.out 0 (by omega); have e1 : wa.cell? ⟨g, m * 4 + 1, none⟩ = some (.int .i64 R[m].2.1) := HCe.out _ HOa.out 1 (by omega); have e2 : wa.cell? ⟨g, m * 4 + 2, none⟩ = some (.int .i64 R[m].2.2.1) := HCe.out _ HOa.out 2 (by omega); have e3 : wa.cell? ⟨g, m * 4 + 3, none⟩ = some (.int .i64 R[m].2.2.2) := HCe.out _ HOa.out 3 (by omega)))
      all_goals
        have HOs := Lib.hid (own_store4 (q0, q1, q2, q3) HOa.out hml2)
        have HPs := Lib.hid ((HP6.out.below hbb).apart (gb_set4 wa g (i := m * 4) (j := m * 4 + 1) (k := m * 4 + 2) (l := m * 4 + 3) (.string q0) (.int .i64 q1) (.int .i64 q2) (.int .i64 q3)) (fun e => by injection e with e; exact hgp e))
        have HBs := Lib.hid (below_set4 (i := m * 4) (j := m * 4 + 1) (k := m * 4 + 2) (l := m * 4 + 3) (HB6.out.trans (hbb.mono (Nat.le_trans hbw HB6.out.size))) hg1 (.string q0) (.int .i64 q1) (.int .i64 q2) (.int .i64 q3))
        go_wp2_with fail
        go_meet
        exact Lib.hid ⟨HOs.out, HPs.out, HBs.out⟩
    case rest =>
    obtain ⟨hO7, hP7, hB7⟩ := hcut.out
    have HE : Hid (PiEnd base p (ptL l fl (t, v)) fl 0 w (.returned (.int .i64 0)) wc) := Lib.hid (by
      rw [HQe.out]
      refine ⟨some ⟨g, 0, none⟩, c', rfl, ?_, ?_, ?_, hB7⟩
      · rw [List.length_set]; exact hO7
      · rw [List.length_set]; exact hP7
      · exact fun e => hgp (by injection e))
    clear hO7 hP7 hB7 hcut c0 c1 c2 c3 y0 y1 hb6
    go_wp2
    go_ret
    exact HE.out
end Go.Proofs.Yteiefngamccapaa
