/- Contract of GoodSeries in the program, over this seat's translation. -/
import Derived.Test.YteiefngamccapaaSe
namespace Go.Proofs.Yteiefngamccapaa
open Go.RowKit Go.Deep

def GsEnd (l : List Chk) (fl : Int) (w : World) (e : Ending) (w' : World) : Prop := e = .returned (.bool (gsB l fl)) ∧ Below w.heap.size w w'

set_option maxHeartbeats 4000000 in
set_option maxRecDepth 100000 in
theorem goodI (ao : Option Addr) (cap : Nat) (l : List Chk) (fl : Int) (hn : l.length ≤ 1048576) (hF : FitC l 1048576) (w : World) (h : CRow w w.heap.size ao l) :
    Calls Try.prog 15 #[.agg #[.slice ao l.length cap, .int .i64 fl]] w (GsEnd l fl w) := by
  have HB0 := Lib.hid ((Below.refl w.heap.size w).alloc (Nat.le_refl _) (.cells #[.slice ao l.length cap, .int .i64 fl] 29))
  have HX0 := Lib.hid (Bt.new w (.slice ao l.length cap) (.int .i64 fl) 29)
  have H := Lib.hid (GR.after h HB0.out)
  have HF := Lib.hid hF
  clear h hF
  unfold GsEnd
  by_cases h6 : l.length ≤ 6
  case neg =>
    have HG := Lib.hid (gs_long (fl := fl) (show 6 < l.length by omega))
    go_enter Try.func15, Try.ntmps15
    go_wp2
    go_ret
    exact ⟨ret_bool HG.out.symm, HB0.out⟩
  by_cases hb : (decide (-1000000 ≤ fl) && decide (fl ≤ 1000000)) = true
  case neg =>
    have hb : (decide (-1000000 ≤ fl) && decide (fl ≤ 1000000)) = false := by simpa using hb
    have HG := Lib.hid (gs_floor (cs := l) hb)
    have HI := Lib.hid (fun W => in87 fl false hb W)
    clear hb
    go_enter Try.func15, Try.ntmps15
    go_wp2_with fail
    refine (HI.out _).mono ?_
    rintro e w1 ⟨rfl, rfl⟩
    go_wp2
    go_ret
    exact ⟨ret_bool HG.out.symm, HB0.out⟩
  have HI := Lib.hid (fun W => in87 fl true hb W)
  have HEm := Lib.hid (fun W hW => emAh ao cap l hn W hW)
  by_cases hem : emB l = true
  · have HG := Lib.hid (gs_em (fl := fl) hem)
    rw [hem] at HEm
    clear hem hb
    go_enter Try.func15, Try.ntmps15
    go_wp2_with fail
    refine (HI.out _).mono ?_
    rintro e w1 ⟨rfl, rfl⟩
    go_wp2_with fail
    refine (HEm.out _ H.out).mono ?_
    rintro e w2 ⟨rfl, rfl⟩
    go_wp2
    go_ret
    exact ⟨ret_bool HG.out.symm, HB0.out⟩
  have hem : emB l = false := by simpa using hem
  have HGo := Lib.hid (fun h4 h5 h7 => gs_yes (cs := l) (fl := fl) h6 hb hem h4 h5 h7)
  rw [hem] at HEm
  clear hem hb
  have HA := Lib.hid (fun W hW => ofAll ao cap l h6 HF.out W hW)
  unfold AllEnd at HA
  by_cases hal : allB l = true
  case neg =>
    have hal : allB l = false := by simpa using hal
    have HG := Lib.hid (gs_all (fl := fl) hal)
    rw [hal] at HA
    generalize serR l = r at HA
    clear hal
    go_enter Try.func15, Try.ntmps15
    go_wp2_with fail
    refine (HI.out _).mono ?_
    rintro e w1 ⟨rfl, rfl⟩
    go_wp2_with fail
    refine (HEm.out _ H.out).mono ?_
    rintro e w2 ⟨rfl, rfl⟩
    go_wp2_with fail
    refine (HA.out _ H.out).mono ?_
    rintro e w3 ⟨⟨bo, cp, rfl, _⟩, hb3⟩
    have HB3 := Lib.hid (HB0.out.trans (hb3.mono HB0.out.size))
    clear hb3
    go_wp2
    go_ret
    exact ⟨ret_bool HG.out.symm, HB3.out⟩
  rw [hal, serR_yes hal] at HA
  have HGo := Lib.hid (fun h5 h7 => HGo.out hal h5 h7)
  have HGn := Lib.hid (fun h => gs_good (cs := l) (fl := fl) h)
  have HFi := Lib.hid (fun h h2 => gs_first (cs := l) (fl := fl) h h2)
  have HFs := Lib.hid (serL_fit l)
  have hlen := serL_len l
  have HGd := Lib.hid (fun (o : Option Addr) (k : Nat) W hW => good25 o k (serL l) HFs.out (by omega) W hW)
  have h48 : (serL l).length ≤ 48 := by omega
  clear hal hlen
  generalize serL l = x at HA HGo HGn HFi HFs HGd h48
  by_cases hg : goodS x = true
  case neg =>
    have hg : goodS x = false := by simpa using hg
    have HG := Lib.hid (HGn.out hg)
    rw [hg] at HGd
    clear hg
    go_enter Try.func15, Try.ntmps15
    go_wp2_with fail
    refine (HI.out _).mono ?_
    rintro e w1 ⟨rfl, rfl⟩
    go_wp2_with fail
    refine (HEm.out _ H.out).mono ?_
    rintro e w2 ⟨rfl, rfl⟩
    go_wp2_with fail
    refine (HA.out _ H.out).mono ?_
    rintro e w3 ⟨⟨bo, cp, rfl, ho⟩, hb3⟩
    have HS3 := Lib.hid (SRow.of_own ho).2
    have HB3 := Lib.hid (HB0.out.trans (hb3.mono HB0.out.size))
    clear hb3 ho
    go_wp2_with fail
    refine (HGd.out bo cp _ HS3.out).mono ?_
    rintro e w4 ⟨rfl, hb4⟩
    have HB4 := Lib.hid (HB3.out.trans (hb4.mono HB3.out.size))
    clear hb4
    go_wp2
    go_ret
    exact ⟨ret_bool HG.out.symm, HB4.out⟩
  have HGo := Lib.hid (fun h7 => HGo.out hg h7)
  rw [hg] at HGd
  clear hg HGn
  go_enter Try.func15, Try.ntmps15
  go_wp2_with fail
  refine (HI.out _).mono ?_
  rintro e w1 ⟨rfl, rfl⟩
  go_wp2_with fail
  refine (HEm.out _ H.out).mono ?_
  rintro e w2 ⟨rfl, rfl⟩
  go_wp2_with fail
  refine (HA.out _ H.out).mono ?_
  rintro e w3 ⟨⟨bo, cp, rfl, ho⟩, hb3⟩
  have HS3 := Lib.hid (SRow.of_own ho).2
  have HB3 := Lib.hid (HB0.out.trans (hb3.mono HB0.out.size))
  have HX3 := Lib.hid (HX0.out.below hb3)
  clear hb3 ho HX0
  go_wp2_with fail
  refine (HGd.out bo cp _ HS3.out).mono ?_
  rintro e w4 ⟨rfl, hb4⟩
  have HB4 := Lib.hid (HB3.out.trans (hb4.mono HB3.out.size))
  have HS4 := Lib.hid (HS3.out.after hb4)
  obtain ⟨y0, y1, _⟩ := (HX3.out.below hb4).cells
  clear hb4 HX3 HS3 HB3
  by_cases h0 : x.length = 0
  · have hG := HGo.out (.inl h0)
    have HG := Lib.hid hG
    clear hG
    rw [h0]
    go_wp2_with fail
    go_quiet (fail)
    have HD := Lib.hid (below_drewN HB4.out nq)
    go_wp2
    go_ret
    exact ⟨ret_bool HG.out.symm, HD.out⟩
  · obtain ⟨b, off, hbo, hbl, hc⟩ := HS4.out.tv (show 0 < x.length by omega)
    subst hbo
    have c0 := (hc 0 (by omega)).1
    rw [Nat.zero_mul, Nat.add_zero] at c0
    have hne : ((x.length : Int) == 0) = false := beq_eq_false_iff_ne.2 (by omega)
    have hpos : 0 < x.length := by omega
    have HFi := Lib.hid (HFi.out hpos)
    have HGo := Lib.hid (fun h => HGo.out (.inr h))
    clear hc
    generalize tF x 0 = t at c0 HFi HGo
    by_cases hf : fl ≤ t
    · have HG := Lib.hid (HGo.out hf)
      go_wp2_with fail
      go_quiet (fail)
      have HD := Lib.hid (below_drewN HB4.out nq)
      go_wp2
      go_ret
      exact ⟨ret_bool HG.out.symm, HD.out⟩
    · have HG := Lib.hid (HFi.out (by omega))
      go_wp2_with fail
      go_quiet (fail)
      have HD := Lib.hid (below_drewN HB4.out nq)
      go_wp2
      go_ret
      exact ⟨ret_bool (by rw [HG.out]; exact decide_eq_false (Int.not_le.2 hf)), HD.out⟩
end Go.Proofs.Yteiefngamccapaa
