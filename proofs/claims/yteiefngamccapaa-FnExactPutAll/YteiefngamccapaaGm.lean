/- Contract of GoodSeries in the model, over this seat's translation. -/
import Derived.Test.YteiefngamccapaaK15
import Derived.Test.YteiefngamccapaaJx43
namespace Go.Proofs.Yteiefngamccapaa
open Go.RowKit Go.Deep

set_option maxHeartbeats 4000000 in
set_option maxRecDepth 100000 in
theorem goodM (ao : Option Addr) (cap : Nat) (l : List Chk) (fl : Int) (hn : l.length ≤ 1048576) (hF : FitC l 1048576) (w : World) (h : CRow w w.heap.size ao l) :
    Calls Try.prog 46 #[.agg #[.slice ao l.length cap, .int .i64 fl]] w (GsEnd l fl w) := by
  have HB0 := Lib.hid ((Below.refl w.heap.size w).alloc (Nat.le_refl _) (.cells #[.slice ao l.length cap, .int .i64 fl] 29))
  have HX0 := Lib.hid (Bt.new w (.slice ao l.length cap) (.int .i64 fl) 29)
  have H0 := Lib.hid h
  have HF := Lib.hid hF
  clear h hF
  unfold GsEnd
  by_cases h6 : l.length ≤ 6
  case neg =>
    have HG := Lib.hid (gs_long (fl := fl) (show 6 < l.length by omega))
    go_enter Try.func46, Try.ntmps46
    go_wp2
    go_ret
    exact ⟨ret_bool HG.out.symm, HB0.out⟩
  have HI := Lib.hid (fun W => in105 fl (-1000000) 1000000 W)
  by_cases hb : (decide (-1000000 ≤ fl) && decide (fl ≤ 1000000)) = true
  case neg =>
    have hb : (decide (-1000000 ≤ fl) && decide (fl ≤ 1000000)) = false := by simpa using hb
    have HG := Lib.hid (gs_floor (cs := l) hb)
    rw [hb] at HI
    clear hb
    go_enter Try.func46, Try.ntmps46
    go_wp2_with fail
    refine (HI.out _).mono ?_
    rintro e w1 ⟨rfl, rfl⟩
    go_wp2
    go_ret
    exact ⟨ret_bool HG.out.symm, HB0.out⟩
  have HGo := Lib.hid (fun h3 h4 h5 h7 => gs_yes (cs := l) (fl := fl) h6 hb h3 h4 h5 h7)
  have HNo := Lib.hid (fun (k : Nat) (h : emTo l k) (hk : l.length ≤ k + 1) => emB_no h hk)
  rw [hb] at HI
  clear hb
  go_enter Try.func46, Try.ntmps46
  go_wp2_with fail
  refine (HI.out _).mono ?_
  rintro e w1 ⟨rfl, rfl⟩
  go_wp2
  go_loopw [19] (fun i wr => ∃ k : Nat, k ≤ l.length ∧ i = .int .i64 k ∧ Hid (allTo l k) ∧ Hid (emTo l k) ∧ Hid (Bt wr w.heap.size (.slice ao l.length cap) (.int .i64 fl)) ∧ Hid (Below w.heap.size w wr)) (fun i _ => l.length - (intOf i).toNat)
  case atStart => exact ⟨0, Nat.zero_le _, rfl, Lib.hid (allTo_zero l), Lib.hid (emTo_zero l), HX0, HB0⟩
  case round =>
    obtain ⟨k, hk, rfl, hA, hE, hX, hB⟩ := hrel
    by_cases hlt : k < l.length
    · obtain ⟨b, off, hao, hbl, hc0, hc1, hc2, hc3⟩ := (H0.out.below hB.out).oneC hlt
      subst hao
      have hsz := HF.out.at hlt
      have HSa := Lib.hid (fun (h : soB l[k] = true) => allTo_succ hA.out (fun _ : k < l.length => h))
      have HSn := Lib.hid (fun (h : soB l[k] = false) => gs_all (fl := fl) (allB_no hlt h))
      have HM := Lib.hid (mF_at hlt)
      have HEs := Lib.hid (fun (h : k + 1 < l.length → mF l k ≠ 0) => emTo_succ hE.out h)
      have HEn := Lib.hid (fun (h1 : k + 1 < l.length) (h2 : mF l k = 0) => gs_em (fl := fl) (emB_yes h1 h2))
      obtain ⟨x0, x1, _⟩ := hX.out.cells
      generalize l[k] = x at hc0 hc1 hc2 hc3 hsz HSa HSn HM
      obtain ⟨s, x1', x2, x3⟩ := x
      simp only at hc0 hc1 hc2 hc3 hsz
      have HM : Hid (x1' = mF l k) := HM
      rw [← HM.out] at HEs HEn
      have HC := Lib.hid (fun W => good81 s x1' x2 x3 hsz W)
      unfold GdEnd at HC
      have HBc := Lib.hid (hB.out.alloc hB.out.size (.cells #[.string s, .int .i64 x1', .int .i64 x2, .int .i64 x3] 85))
      have HXc := Lib.hid (hX.out.alloc (.cells #[.string s, .int .i64 x1', .int .i64 x2, .int .i64 x3] 85))
      have HYc := Lib.hid (Bx.new wr (.string s) (.int .i64 x1') (.int .i64 x2) (.int .i64 x3) 85)
      by_cases hs : soB (s, x1', x2, x3) = true
      case neg =>
        have hs : soB (s, x1', x2, x3) = false := by simpa using hs
        have HG := Lib.hid (HSn.out hs)
        rw [hs] at HC
        clear hs
        go_wp2_with fail
        refine (HC.out _).mono ?_
        rintro e w1 ⟨rfl, hb1⟩
        have HB1 := Lib.hid (HBc.out.trans (hb1.mono HBc.out.size))
        clear hb1
        go_wp2
        go_ret
        exact ⟨ret_bool HG.out.symm, HB1.out⟩
      have HSa2 := Lib.hid (HSa.out hs)
      rw [hs] at HC
      clear hs
      go_wp2_with fail
      refine (HC.out _).mono ?_
      rintro e w1 ⟨rfl, hb1⟩
      have HB1 := Lib.hid (HBc.out.trans (hb1.mono HBc.out.size))
      have HX1 := Lib.hid (HXc.out.below hb1)
      obtain ⟨v0, v1, _⟩ := HX1.out.cells
      obtain ⟨y0, y1, y2, y3, _⟩ := (HYc.out.below hb1).cells
      clear hb1 hc0 hc1 hc2 hc3 x0 x1
      by_cases hm : x1' = 0
      · have HEn2 := Lib.hid (fun h1 => HEn.out h1 hm)
        have HEs2 := Lib.hid (fun h : ¬ k + 1 < l.length => HEs.out (fun h1 => absurd h1 h))
        clear HM HEn HEs
        subst hm
        by_cases hk1 : k + 1 < l.length
        · have HG := Lib.hid (HEn2.out hk1)
          go_wp2
          go_ret
          exact ⟨ret_bool HG.out.symm, HB1.out⟩
        · have HE1 := Lib.hid (HEs2.out hk1)
          go_wp2
          go_roundw
          case rel => exact ⟨k + 1, by omega, by go_num, HSa2, HE1, HX1, HB1⟩
          case measure => simp [intOf]; omega
      · have hmb : (x1' == 0) = false := beq_eq_false_iff_ne.2 hm
        have HE1 := Lib.hid (HEs.out (fun _ => hm))
        clear HM
        go_wp2
        go_roundw
        case rel => exact ⟨k + 1, by omega, by go_num, HSa2, HE1, HX1, HB1⟩
        case measure => simp [intOf]; omega
    · obtain rfl : k = l.length := by omega
      have hal := allB_yes hA.out
      have hem := HNo.out _ hE.out (by omega)
      have HA := Lib.hid (fun W hW => allM ao cap l fl h6 HF.out hal W hW)
      have HGo := Lib.hid (fun h5 h7 => HGo.out hem hal h5 h7)
      have HGn := Lib.hid (fun h => gs_good (cs := l) (fl := fl) h)
      have HFi := Lib.hid (fun h h2 => gs_first (cs := l) (fl := fl) h h2)
      have HFs := Lib.hid (serL_fit l)
      have hlen := serL_len l
      have HGd := Lib.hid (fun (o : Option Addr) (k : Nat) W hW => good76 o k (serL l) HFs.out (by omega) W hW)
      have h48 : (serL l).length ≤ 48 := by omega
      have HR := Lib.hid ((H0.out.below hB.out).more hB.out.size)
      obtain ⟨x0, x1, _⟩ := hX.out.cells
      clear hal hem hlen
      generalize serL l = x at HA HGo HGn HFi HFs HGd h48
      go_wp2_with fail
      refine (HA.out _ HR.out).mono ?_
      rintro e w3 ⟨⟨bo, cp, rfl, ho⟩, hb3⟩
      have hS := (SRow.of_own ho).2
      have HS3 := Lib.hid (fun (W : World) (hb : Below w3.heap.size w3 W) => hS.after hb)
      have HT3 := Lib.hid hS
      have HB3 := Lib.hid (hB.out.trans (hb3.mono hB.out.size))
      have HX3 := Lib.hid (hX.out.below hb3)
      clear hb3 ho hS x0 x1
      by_cases hg : goodS x = true
      case neg =>
        have hg : goodS x = false := by simpa using hg
        have HG := Lib.hid (HGn.out hg)
        rw [hg] at HGd
        clear hg
        go_wp2_with fail
        have hun : undef = Value.tuple #[] := rfl
        first | (go_region_with (first | (go_at_call 74; refine (HGd.out bo cp _ (HS3.out _ (Below.refl _ _).drew)).mono ?_; rintro e w4 ⟨rfl, hb4'⟩; have hb4 := (Below.refl w3.heap.size w3).drew.trans hb4'; clear hb4'))) | skip
        all_goals
          have HB4 := Lib.hid (HB3.out.trans (hb4.mono HB3.out.size))
          clear hb4
          go_wp2
          go_ret
          exact ⟨ret_bool HG.out.symm, HB4.out⟩
      have HGo := Lib.hid (fun h7 => HGo.out hg h7)
      rw [hg] at HGd
      clear hg HGn
      by_cases h0 : x.length = 0
      · have hG := HGo.out (.inl h0)
        have HG := Lib.hid hG
        have he : ((x.length : Int) == 0) = true := beq_iff_eq.2 (by omega)
        clear hG h0
        go_wp2_with fail
        first | (go_region_with (first | (go_at_call 74; refine (HGd.out bo cp _ (HS3.out _ (Below.refl _ _).drew)).mono ?_; rintro e w4 ⟨rfl, hb4'⟩; have hb4 := (Below.refl w3.heap.size w3).drew.trans hb4'; clear hb4'))) | skip
        all_goals
          have HB4 := Lib.hid (HB3.out.trans (hb4.mono HB3.out.size))
          clear hb4
          go_wp2
          go_ret
          exact ⟨ret_bool HG.out.symm, HB4.out⟩
      · obtain ⟨b, off, hbo, hbl, hc⟩ := HT3.out.tv (show 0 < x.length by omega)
        subst hbo
        have c0 := (hc 0 (by omega)).1
        rw [Nat.zero_mul, Nat.add_zero] at c0
        have hne : ((x.length : Int) == 0) = false := beq_eq_false_iff_ne.2 (by omega)
        have hpos : 0 < x.length := by omega
        have HFi := Lib.hid (HFi.out hpos)
        have HGo := Lib.hid (fun h => HGo.out (.inr h))
        clear hc
        generalize tF x 0 = t at c0 HFi HGo
        have HC0 := Lib.hid (fun (W : World) (hb : Below w3.heap.size w3 W) => (hb.cell (p := ⟨b, off, none⟩) hbl).trans c0)
        obtain ⟨e0, e1, _⟩ := HX3.out.cells
        by_cases hf : fl ≤ t
        · have HG := Lib.hid (HGo.out hf)
          clear HGo HFi
          go_wp2_with fail
          first | (go_region_held3 (fun w' => w'.cell? ⟨w.heap.size, 1, none⟩ = some (.int .i64 fl) ∧ w'.cell? ⟨b, off, none⟩ = some (.int .i64 t)) (exact ⟨by assumption, by assumption⟩) (first | (go_at_call 74; refine (HGd.out (some ⟨b, off, none⟩) cp _ (HS3.out _ (Below.refl _ _).drew)).mono ?_; rintro e w4 ⟨rfl, hb4'⟩; have hb4 := (Below.refl w3.heap.size w3).drew.trans hb4'; clear hb4'; obtain ⟨v0, v1, _⟩ := (HX3.out.below hb4).cells; have c4 := HC0.out _ hb4))) | skip
          all_goals
            have HB4 := Lib.hid (HB3.out.trans (hb4.mono HB3.out.size))
            clear hb4
            go_wp2
            go_ret
            exact ⟨ret_bool HG.out.symm, HB4.out⟩
        · have HG := Lib.hid (HFi.out (by omega))
          clear HGo HFi
          have hfd : decide (fl ≤ t) = false := decide_eq_false hf
          go_wp2_with fail
          first | (go_region_held3 (fun w' => w'.cell? ⟨w.heap.size, 1, none⟩ = some (.int .i64 fl) ∧ w'.cell? ⟨b, off, none⟩ = some (.int .i64 t)) (exact ⟨by assumption, by assumption⟩) (first | (go_at_call 74; refine (HGd.out (some ⟨b, off, none⟩) cp _ (HS3.out _ (Below.refl _ _).drew)).mono ?_; rintro e w4 ⟨rfl, hb4'⟩; have hb4 := (Below.refl w3.heap.size w3).drew.trans hb4'; clear hb4'; obtain ⟨v0, v1, _⟩ := (HX3.out.below hb4).cells; have c4 := HC0.out _ hb4))) | skip
          all_goals
            have HB4 := Lib.hid (HB3.out.trans (hb4.mono HB3.out.size))
            clear hb4
            go_wp2
            go_ret
            exact ⟨ret_bool HG.out.symm, HB4.out⟩

theorem goodMs (ao : Option Addr) (cap : Nat) (l : List Chk) (fl : Int) (hn : l.length ≤ 1048576) (hF : FitC l 1048576) (w : World) (h : CRow w w.heap.size ao l) :
    Calls Try.prog 13 #[.agg #[.slice ao l.length cap, .int .i64 fl]] w (GsEnd l fl w) := by
  have HB0 := Lib.hid ((Below.refl w.heap.size w).alloc (Nat.le_refl _) (.cells #[.slice ao l.length cap, .int .i64 fl] 29))
  have H := Lib.hid (GR.after h HB0.out)
  have HC := Lib.hid (fun W hW => goodM ao cap l fl hn hF W hW)
  clear h hF
  unfold GsEnd at HC ⊢
  generalize gsB l fl = g at HC ⊢
  go_enter Try.func13, Try.ntmps13
  go_wp2_with fail
  refine (HC.out _ H.out).mono ?_
  rintro e w1 ⟨rfl, hb1⟩
  have HB1 := Lib.hid (HB0.out.trans (hb1.mono HB0.out.size))
  clear hb1
  go_wp2
  go_ret
  exact ⟨rfl, HB1.out⟩
end Go.Proofs.Yteiefngamccapaa
