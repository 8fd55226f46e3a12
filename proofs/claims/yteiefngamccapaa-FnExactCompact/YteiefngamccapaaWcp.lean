/- The walk of the law FnExactCompact: the call returns true, and nothing that was there has changed. -/
import Derived.Test.YteiefngamccapaaCpi
import Derived.Deep.DeepCutAuto
namespace Go.Proofs.Yteiefngamccapaa
open Go.RowKit Go.Deep

set_option maxHeartbeats 8000000 in
set_option maxRecDepth 100000 in
theorem walk_fnExactCompact (w : World) (ao : Option Addr) (cap : Nat) (l : List Chk) (fl : Int) (hl : l.length ≤ maxLen ∧ FitC l maxLen ∧ CRow w w.heap.size ao l) :
    Calls Try.prog 11 #[.agg #[.slice ao l.length cap, .int .i64 fl]] w fun e w' => e = .returned (.bool true) ∧ Below w.heap.size w w' := by
  obtain ⟨hn, hF, h⟩ := hl
  have HB0 := Lib.hid ((Below.refl w.heap.size w).alloc (Nat.le_refl _) (.cells #[.slice ao l.length cap, .int .i64 fl] 24))
  have HX0 := Lib.hid (Bt.new w (.slice ao l.length cap) (.int .i64 fl) 24)
  have HR0 := Lib.hid (GR.after h HB0.out)
  have HF := Lib.hid hF
  clear h hF
  go_enter Try.func11, Try.ntmps11
  go_wp2_with fail
  refine (szSer ao cap l fl hn HF.out 1048576 (by omega) (by omega) _ HR0.out).mono ?_
  rintro e w1 ⟨⟨r, rfl, hr1, hr⟩, hb1⟩
  have HB1 := Lib.hid (HB0.out.trans (hb1.mono HB0.out.size))
  have HX1 := Lib.hid (HX0.out.below hb1)
  have HR1 := Lib.hid (GR.after HR0.out hb1)
  clear hb1 HB0 HX0 HR0
  rcases hr with rfl | ⟨hr0, hn1, hF1⟩
  · go_wp2
    go_ret
    exact ⟨rfl, HB1.out⟩
  have HF1 := Lib.hid hF1
  have HT := Lib.hid (fun W hW => toSer ao cap l fl hn1 W hW)
  have HC1 := Lib.hid (fun o c W hW => cpM o c l fl hn1 HF1.out W hW)
  have HC2 := Lib.hid (fun o c W hW => cpI o c l fl hn1 HF1.out W hW)
  have HE := Lib.hid (fun o o' c c' W h1 h2 => eqSer o o' c c' l fl hn1 W h1 h2)
  have HMk := Lib.hid (fun base v xs W h => markSer base l.length v fl xs hn1 W h)
  have hyl : (cpR l fl).length ≤ 1048576 := cpR_len l fl
  unfold SeEnd at HC1 HC2
  generalize gsB l fl = g at HC1 HC2
  generalize cpR l fl = y at HC1 HC2 hyl
  generalize cpF l fl = f at HC1 HC2
  have HEy := Lib.hid (fun (o o' : Option Addr) (c c' : Nat) W h1 h2 => eqSer o o' c c' y f hyl W h1 h2)
  have HMy := Lib.hid (fun base v xs W h => markSer base y.length v f xs hyl W h)
  have HHy := Lib.hid (fun (o : Option Addr) (c : Nat) W h => heldSer y.length o c f hyl W h)
  have hgg : (g != g) = false := by cases g <;> rfl
  clear hn hF1 hn1 hyl
  obtain ⟨x0, x1, _⟩ := HX1.out.cells
  go_wp2_with fail
  refine (HT.out _ HR1.out).mono ?_
  rintro e w2 h2
  obtain ⟨o2, k2, rfl, _, hR2, hb2⟩ := made_ser h2
  have HB2 := Lib.hid (HB1.out.trans (hb2.mono HB1.out.size))
  have HX2 := Lib.hid (HX1.out.below hb2)
  have HR2 := Lib.hid (GR.after HR1.out hb2)
  have HQ2 := Lib.hid hR2
  clear hb2 h2 hR2 x0 x1 HB1 HX1 HR1
  go_wp2_with fail
  refine (HC1.out _ _ _ HQ2.out).mono ?_
  rintro e w3 ⟨⟨so, sc, rfl, ho3⟩, hb3⟩
  have hW3 := (Below.refl w3.heap.size w3).alloc (Nat.le_refl _) (.cells #[.slice so y.length sc, .int .i64 f] 29)
  have HB3 := Lib.hid ((HB2.out.trans (hb3.mono HB2.out.size)).trans (hW3.mono (Nat.le_trans HB2.out.size hb3.size)))
  have HX3 := Lib.hid ((HX2.out.below hb3).below hW3)
  have HR3 := Lib.hid (GR.after (GR.after HR2.out hb3) hW3)
  have HS3 := Lib.hid (GR.after (GR.of_own cC_len ho3) hW3)
  have HT3 := Lib.hid (Bt.new w3 (.slice so y.length sc) (.int .i64 f) 29)
  obtain ⟨W3, hW3e⟩ : ∃ W, W = w3.alloc (.cells #[.slice so y.length sc, .int .i64 f] 29) := ⟨_, rfl⟩
  rw [← hW3e] at HB3 HX3 HR3 HS3 HT3
  have HAr := Lib.hid (fun (W : World) (hb : Below W3.heap.size W3 W) => GR.after HR3.out hb)
  have HAx := Lib.hid (fun (W : World) (hb : Below W3.heap.size W3 W) => HX3.out.below hb)
  have HSy := Lib.hid (fun (W : World) (hb : Below W3.heap.size W3 W) => GR.after HS3.out hb)
  have HSb := Lib.hid (fun (W : World) (hb : Below W3.heap.size W3 W) => HT3.out.below hb)
  have x := HX3.out.cells
  rw [hW3e] at x
  obtain ⟨x0, x1, _⟩ := x
  have hne3 : w3.heap.size ≠ w.heap.size := by have h1 := (HX2.out.below hb3).lt; omega
  clear hb3 ho3 hW3 HB2 HX2 HR2 HQ2 HR3 HX3 HS3 HT3
  go_wp2_with fail
  rw [← hW3e]
  clear hW3e x0 x1 hne3
  refine (HT.out _ (HAr.out _ (Below.refl _ _))).mono ?_
  rintro e w4 h4
  obtain ⟨o4, k4, rfl, hO4, hR4, hb4⟩ := made_ser h4
  have hW4 := (Below.refl w4.heap.size w4).alloc (Nat.le_refl _) (.cells #[.slice o4 l.length k4, .int .i64 fl] 29)
  have HL4 := Lib.hid (hb4.trans (hW4.mono hb4.size))
  have HQ4 := Lib.hid (GR.after hR4 hW4)
  have HP4 := Lib.hid (Bt.new w4 (.slice o4 l.length k4) (.int .i64 fl) 29)
  have HO4 := Lib.hid (hO4.alloc (.cells #[.slice o4 l.length k4, .int .i64 fl] 29))
  have HV4 := Lib.hid (fun k (hk : (Value.slice o4 l.length k4).ownBlock = some k) => (hO4.lt k hk).2)
  have h34 := hb4.size
  obtain ⟨W4, hW4e⟩ : ∃ W, W = w4.alloc (.cells #[.slice o4 l.length k4, .int .i64 fl] 29) := ⟨_, rfl⟩
  have hWs : w4.heap.size < W4.heap.size := by rw [hW4e]; simp
  rw [← hW4e] at HQ4 HP4 HO4 HL4
  clear hb4 h4 hR4 hO4 hW4
  go_wp2_with fail
  rw [← hW4e]
  clear hW4e
  refine (HC2.out _ _ _ HQ4.out).mono ?_
  rintro e w5 ⟨⟨go, gc, rfl, ho5⟩, hb5⟩
  have hW5 := (Below.refl w5.heap.size w5).alloc (Nat.le_refl _) (.cells #[.slice go y.length gc, .int .i64 f] 29)
  have hb5a := hb5.trans (hW5.mono hb5.size)
  have HP5 := Lib.hid (HP4.out.below hb5a)
  have HQ5 := Lib.hid (GR.after HQ4.out hb5a)
  have HO5 := Lib.hid (own_below HO4.out hb5a)
  have HG5 := Lib.hid (ho5.alloc (.cells #[.slice go y.length gc, .int .i64 f] 29))
  have HGb5 := Lib.hid (Bt.new w5 (.slice go y.length gc) (.int .i64 f) 29)
  have HVg := Lib.hid (fun k (hk : (Value.slice go y.length gc).ownBlock = some k) => (ho5.lt k hk).2)
  have HL5 := Lib.hid (HL4.out.trans (hb5a.mono HL4.out.size))
  have h45 := hb5.size
  obtain ⟨W5, hW5e⟩ : ∃ W, W = w5.alloc (.cells #[.slice go y.length gc, .int .i64 f] 29) := ⟨_, rfl⟩
  rw [← hW5e] at HP5 HQ5 HO5 HG5 HGb5 HL5
  have z := (HSb.out _ HL5.out).cells
  have x := HGb5.out.cells
  rw [hW5e] at z x
  obtain ⟨z0, z1, _⟩ := z
  obtain ⟨x0, x1, _⟩ := x
  have hne5 : w5.heap.size ≠ w3.heap.size := by have h1 := (HSb.out _ (Below.refl _ _)).lt; omega
  clear hb5 hb5a ho5 hW5 HQ4 HP4 HO4 HL4
  go_wp2_with fail
  rw [← hW5e]
  clear hW5e z0 z1 x0 x1 hne5
  refine (HEy.out go so gc sc _ (GR.of_own cC_len HG5.out) (HSy.out _ HL5.out)).mono ?_
  rintro e w6 ⟨rfl, hb6⟩
  have HP6 := Lib.hid (HP5.out.below hb6)
  have HO6 := Lib.hid (own_below HO5.out hb6)
  have HG6 := Lib.hid (own_below HG5.out hb6)
  have HGb6 := Lib.hid (HGb5.out.below hb6)
  have HL6 := Lib.hid (HL5.out.trans (hb6.mono HL5.out.size))
  have HQ6 := Lib.hid (GR.after HQ5.out hb6)
  have HBox := Lib.hid (fun (W : World) (hb : Below w6.heap.size w6 W) => GR.after HQ6.out hb)
  have HArg := Lib.hid (fun (W : World) (hb : Below w6.heap.size w6 W) => GR.after (HAr.out _ HL6.out) hb)
  have HX6 := Lib.hid (HAx.out _ HL6.out)
  clear hb6 HP5 HO5 HG5 HGb5 HL5 HQ5
  obtain ⟨x0, x1, _⟩ := HX6.out.cells
  obtain ⟨p0, p1, _⟩ := HP6.out.cells
  go_wp2_with fail
  go_upto_region 10 with fail
  go_cut [45] (fun s wx => s = .bool false ∧ Hid (Below w6.heap.size w6 wx))
  case first =>
    go_region_held3 (fun w' => w'.cell? ⟨w4.heap.size, 0, none⟩ = some (.slice o4 l.length k4) ∧ w'.cell? ⟨w4.heap.size, 1, none⟩ = some (.int .i64 fl) ∧ w'.cell? ⟨w.heap.size, 0, none⟩ = some (.slice ao l.length cap) ∧ w'.cell? ⟨w.heap.size, 1, none⟩ = some (.int .i64 fl)) (exact ⟨by assumption, by assumption, by assumption, by assumption⟩) (first | (go_at_call 14; refine (HT.out _ (HArg.out _ (Below.refl _ _).drew)).mono ?_; rintro e w7 h7; obtain ⟨o7, k7, rfl, _, hR7, hb7'⟩ := made_ser h7; have hb7 := (Below.refl w6.heap.size w6).drew.trans hb7'; clear hb7' h7; obtain ⟨q0, q1, _⟩ := (HP6.out.below hb7).cells; obtain ⟨u0, u1, _⟩ := (HX6.out.below hb7).cells) | (go_at_call 16; refine (HE.out _ _ _ _ _ (HBox.out _ hb7) hR7).mono ?_; rintro e w8 ⟨rfl, hb8'⟩; have hb8 := hb7.trans (hb8'.mono hb7.size); clear hb8'; obtain ⟨r0, r1, _⟩ := (HP6.out.below hb8).cells; obtain ⟨t0, t1, _⟩ := (HX6.out.below hb8).cells))
    all_goals
      go_wp2_with fail
      go_meet
      exact ⟨rfl, Lib.hid hb8⟩
  case rest =>
    obtain ⟨rfl, HW⟩ := hcut
    have HP7 := Lib.hid (HP6.out.below HW.out)
    have HO7 := Lib.hid (own_below HO6.out HW.out)
    have HG7 := Lib.hid (own_below HG6.out HW.out)
    have HGb7 := Lib.hid (HGb6.out.below HW.out)
    have HL7 := Lib.hid (HL6.out.trans (HW.out.mono HL6.out.size))
    clear HW HP6 HO6 HG6 HGb6 HL6 HArg HBox HX6 HQ6 x0 x1 p0 p1
    obtain ⟨p0, p1, _⟩ := HP7.out.cells
    go_wp2_with fail
    refine (HMk.out _ _ _ _ HO7.out).mono ?_
    rintro e w8 ⟨rfl, _, hg8⟩
    have HB78 : Hid (Below W3.heap.size wc w8) := Lib.hid ((Below.refl _ _).grown hg8 HL7.out.size (chunk_block HO7.out))
    have HL8 := Lib.hid (HL7.out.trans HB78.out)
    have HG8 := Lib.hid (own_apart HG7.out hg8 (fun k hk => by have := HV4.out k hk; omega))
    have HGb8 := Lib.hid (HGb7.out.apart hg8 (fun e => by have := HV4.out _ e; omega))
    clear hg8 HB78 HL7 HG7 HGb7 HO7 HP7 p0 p1
    obtain ⟨x0, x1, _⟩ := HGb8.out.cells
    obtain ⟨z0, z1, _⟩ := (HSb.out _ HL8.out).cells
    go_wp2_with fail
    refine (HEy.out go so gc sc _ (GR.of_own cC_len HG8.out) (HSy.out _ HL8.out)).mono ?_
    rintro e w9 ⟨rfl, hb9⟩
    have HL9 := Lib.hid (HL8.out.trans (hb9.mono HL8.out.size))
    have HG9 := Lib.hid (own_below HG8.out hb9)
    have HGb9 := Lib.hid (HGb8.out.below hb9)
    clear hb9 HL8 HG8 HGb8 x0 x1 z0 z1
    obtain ⟨x0, x1, _⟩ := HGb9.out.cells
    go_wp2_with fail
    refine (HMy.out W4.heap.size _ _ _ HG9.out).mono ?_
    rintro e w10 ⟨rfl, ho10, hg10⟩
    have HB910 : Hid (Below W3.heap.size w9 w10) := Lib.hid ((Below.refl _ _).grown hg10 HL9.out.size (fun k hk => by have := (HG9.out.lt k hk).1; omega))
    have HL10 := Lib.hid (HL9.out.trans HB910.out)
    have HG10 := Lib.hid ho10
    have HGb10 := Lib.hid (HGb9.out.apart hg10 (fun e => by have := HVg.out _ e; omega))
    clear ho10 hg10 HB910 HL9 HG9 HGb9 x0 x1
    obtain ⟨x0, x1, _⟩ := HGb10.out.cells
    have HLn := Lib.hid (marksC_len y.length)
    have HD10 : Hid (CRow w10 w10.heap.size go (marksC y.length)) := Lib.hid (by
      have h := HG10.out
      rw [← HLn.out] at h
      exact GR.of_own (c := gc) cC_len (by simpa only [HLn.out] using h))
    go_wp2_with fail
    refine (HHy.out go gc _ HD10.out).mono ?_
    rintro e w11 ⟨rfl, hb11⟩
    have HL11 := Lib.hid (HL10.out.trans (hb11.mono HL10.out.size))
    have HD11 := Lib.hid (GR.after HD10.out hb11)
    have HGb11 := Lib.hid (HGb10.out.below hb11)
    clear hb11 HL10 HG10 HGb10 HD10 x0 x1
    obtain ⟨x0, x1, _⟩ := (HAx.out _ HL11.out).cells
    go_wp2_with fail
    refine (HT.out _ (HAr.out _ HL11.out)).mono ?_
    rintro e w12 h12
    obtain ⟨o12, k12, rfl, _, hR12, hb12⟩ := made_ser h12
    have HL12 := Lib.hid (HL11.out.trans (hb12.mono HL11.out.size))
    have HD12 := Lib.hid (GR.after HD11.out hb12)
    have HGb12 := Lib.hid (HGb11.out.below hb12)
    have HQ12 := Lib.hid hR12
    clear h12 hR12 hb12 HL11 HD11 HGb11 x0 x1
    go_wp2_with fail
    refine (HC2.out _ _ _ HQ12.out).mono ?_
    rintro e w13 ⟨⟨ho, hc, rfl, ho13⟩, hb13⟩
    have hW13 := (Below.refl w13.heap.size w13).alloc (Nat.le_refl _) (.cells #[.slice ho y.length hc, .int .i64 f] 29)
    have hb13a := hb13.trans (hW13.mono hb13.size)
    have HL13 := Lib.hid (HL12.out.trans (hb13a.mono HL12.out.size))
    have HD13 := Lib.hid (GR.after HD12.out hb13a)
    have HGb13 := Lib.hid (HGb12.out.below hb13a)
    have HR13 := Lib.hid (GR.after (GR.of_own cC_len ho13) hW13)
    have HH13 := Lib.hid (Bt.new w13 (.slice ho y.length hc) (.int .i64 f) 29)
    obtain ⟨W13, hW13e⟩ : ∃ W, W = w13.alloc (.cells #[.slice ho y.length hc, .int .i64 f] 29) := ⟨_, rfl⟩
    rw [← hW13e] at HL13 HD13 HGb13 HR13 HH13
    have z := (HSb.out _ HL13.out).cells
    have x := HH13.out.cells
    rw [hW13e] at z x
    obtain ⟨z0, z1, _⟩ := z
    obtain ⟨x0, x1, _⟩ := x
    have hne13 : w13.heap.size ≠ w3.heap.size := by have h1 := (HSb.out _ (Below.refl _ _)).lt; have h2 := HL12.out.size; have h3 := hb13.size; omega
    clear hb13 hb13a ho13 hW13 HL12 HD12 HGb12 HQ12
    go_wp2_with fail
    rw [← hW13e]
    clear hW13e z0 z1 x0 x1 hne13
    refine (HEy.out ho so hc sc _ HR13.out (HSy.out _ HL13.out)).mono ?_
    rintro e w14 ⟨rfl, hb14⟩
    have HL14 := Lib.hid (HL13.out.trans (hb14.mono HL13.out.size))
    have HD14 := Lib.hid (GR.after HD13.out hb14)
    obtain ⟨x0, x1, _⟩ := (HGb13.out.below hb14).cells
    clear hb14 HL13 HD13 HR13 HH13 HGb13
    go_wp2_with fail
    refine (HHy.out go gc _ HD14.out).mono ?_
    rintro e w15 ⟨rfl, hb15⟩
    have HL15 := Lib.hid (HL14.out.trans (hb15.mono HL14.out.size))
    clear hb15
    go_wp2
    go_ret
    exact ⟨rfl, HB3.out.trans (HL15.out.mono HB3.out.size)⟩
end Go.Proofs.Yteiefngamccapaa
