/- The walk of the law FnSets: for every two lists of bytes its call returns true and writes nothing that was there. -/
import Derived.Test.YtgibjdmjemalcaaDrR
import Derived.Test.YtgibjdmjemalcaaSeM7
import Derived.Test.YtgibjdmjemalcaaCc7
import Derived.Deep.DeepCutAuto
namespace Go.Proofs.Ytgibjdmjemalcaa
open Go.RowKit Go.Deep

set_option maxRecDepth 100000 in
set_option maxHeartbeats 8000000 in
theorem walk_fnSets (w : World) (ao : Option Addr) (c n : Nat) (bo : Option Addr) (d m : Nat) (ha : BRow w w.heap.size ao n) (hb : BRow w w.heap.size bo m) :
    Calls Try.prog 3 #[.slice ao n c, .slice bo m d] w fun e w' => e = .returned (.bool true) ∧ Below w.heap.size w w' := by
  have HAr := Lib.hid ha
  have HBr := Lib.hid hb
  clear ha hb
  by_cases hbig : 1048576 < n + m
  · have hd : decide (1048576 < n + m) = true := by simpa using hbig
    go_enter Try.func3, Try.ntmps3
    go_wp2_with fail
    refine (bigC w ao bo n m c d).mono ?_
    rintro e w1 ⟨rfl, rfl⟩
    rw [hd]
    go_wp2
    go_ret
    exact ⟨rfl, Below.refl _ _⟩
  have hd : decide (1048576 < n + m) = false := by simpa using hbig
  go_enter Try.func3, Try.ntmps3
  go_wp2_with fail
  refine (bigC w ao bo n m c d).mono ?_
  rintro e w1 ⟨rfl, rfl⟩
  rw [hd]
  clear hd
  go_wp2_with fail
  refine (drawBothC w ao n c HAr.out (by omega)).mono ?_
  rintro e w1 ⟨po, pc, a, qo, qc, b, hla, hlb, rfl, hA, hB, hb1⟩
  have HA1 := Lib.hid hA; have HE1 := Lib.hid hB; have HB1 := Lib.hid hb1
  have hxa := hA.1; have hxb := hB.1
  have C1 := Lib.hid (fun x y e f W h1 h2 => bothOfI x y e f a b (by omega) (by omega) W h1 h2)
  have C2 := Lib.hid (fun x y e f W h1 h2 => bothOfM x y e f a b (by omega) (by omega) W h1 h2)
  have C3 := Lib.hid (fun x y e f W h1 h2 => eitherI x y e f a b (by omega) (by omega) W h1 h2)
  have C4 := Lib.hid (fun x y e f W h1 h2 => eitherM x y e f a b (by omega) (by omega) W h1 h2)
  have C5 := Lib.hid (fun x y e f W h1 h2 => lessOfI x y e f a b (by omega) (by omega) W h1 h2)
  have C6 := Lib.hid (fun x y e f W h1 h2 => lessOfM x y e f a b (by omega) (by omega) W h1 h2)
  have C7 := Lib.hid (fun x y e f W h1 h2 => lessOfI x y e f b a (by omega) (by omega) W h1 h2)
  have C8 := Lib.hid (fun x y e f W h1 h2 => bothOfI x y e f b a (by omega) (by omega) W h1 h2)
  have hlI : (bothL a b).length ≤ 1048576 := bothL_len (by omega) (by omega)
  have hlU : (eithL a b).length ≤ 1048576 := eithL_len (by omega) (by omega)
  have hlD : (lessL a b).length ≤ 1048576 := lessL_len (by omega) (by omega)
  have hlG : (lessL b a).length ≤ 1048576 := lessL_len (by omega) (by omega)
  have C9 := Lib.hid (fun x y e f W h1 h2 => eitherI x y e f (lessL a b) (bothL a b) hlD hlI W h1 h2)
  have HxI := Lib.hid (bothL_in hxa hxb); have HxU := Lib.hid (eithL_in hxa hxb); have HxD := Lib.hid (lessL_in hxa hxb)
  have HxG := Lib.hid (lessL_in hxb hxa)
  have HSets := Lib.hid (fun h1 h2 => sets_all (a := a) (b := b) h1 h2)
  unfold LbEnd at C1 C2 C3 C4 C5 C6 C7 C8 C9
  generalize okE (lessL a b) (bothL a b) = q4 at C9 HSets
  generalize eithL (lessL a b) (bothL a b) = X at C9 HSets
  generalize bothL b a = J at C8 HSets
  generalize bothL a b = I at C1 C2 C9 hlI HxI HSets
  generalize eithL a b = U at C3 C4 hlU HxU HSets
  generalize lessL a b = D at C5 C6 C9 hlD HxD HSets
  generalize lessL b a = G at C7 hlG HxG HSets
  generalize okR a b = q1 at C1 C2 C5 C6 HSets
  generalize okE a b = q2 at C3 C4 HSets
  generalize okR b a = q3 at C7 C8 HSets
  have hq1 : (q1 != q1) = false := by cases q1 <;> rfl
  have hq2 : (q2 != q2) = false := by cases q2 <;> rfl
  clear hA hB hb1 hxa hxb
  go_wp2_with fail
  refine (C1.out _ _ _ _ _ HA1.out HE1.out).mono ?_
  rintro e w2 ⟨⟨io, ic, rfl, ho⟩, hb⟩
  have HB2 := Lib.hid (HB1.out.trans (hb.mono HB1.out.size))
  have HA2 := Lib.hid (HA1.out.after hb)
  have HE2 := Lib.hid (HE1.out.after hb)
  have HI2 := Lib.hid (irow_own HxI.out ho)
  clear hb HB1 HA1 HE1
  go_wp2_with fail
  refine (C2.out _ _ _ _ _ HA2.out HE2.out).mono ?_
  rintro e w3 ⟨⟨jo, jc, rfl, ho⟩, hb⟩
  have HB3 := Lib.hid (HB2.out.trans (hb.mono HB2.out.size))
  have HA3 := Lib.hid (HA2.out.after hb)
  have HE3 := Lib.hid (HE2.out.after hb)
  have HI3 := Lib.hid (HI2.out.after hb)
  have HJ3 := Lib.hid (irow_own HxI.out ho)
  clear hb HB2 HA2 HE2 HI2
  go_wp2_with fail
  refine (C3.out _ _ _ _ _ HA3.out HE3.out).mono ?_
  rintro e w4 ⟨⟨uo, uc, rfl, ho⟩, hb⟩
  have HB4 := Lib.hid (HB3.out.trans (hb.mono HB3.out.size))
  have HA4 := Lib.hid (HA3.out.after hb)
  have HE4 := Lib.hid (HE3.out.after hb)
  have HI4 := Lib.hid (HI3.out.after hb)
  have HJ4 := Lib.hid (HJ3.out.after hb)
  have HU4 := Lib.hid (irow_own HxU.out ho)
  clear hb HB3 HA3 HE3 HI3 HJ3
  go_wp2_with fail
  refine (C4.out _ _ _ _ _ HA4.out HE4.out).mono ?_
  rintro e w5 ⟨⟨vo, vc, rfl, ho⟩, hb⟩
  have HB5 := Lib.hid (HB4.out.trans (hb.mono HB4.out.size))
  have HA5 := Lib.hid (HA4.out.after hb)
  have HE5 := Lib.hid (HE4.out.after hb)
  have HI5 := Lib.hid (HI4.out.after hb)
  have HJ5 := Lib.hid (HJ4.out.after hb)
  have HU5 := Lib.hid (HU4.out.after hb)
  have HV5 := Lib.hid (irow_own HxU.out ho)
  clear hb HB4 HA4 HE4 HI4 HJ4 HU4
  go_wp2_with fail
  refine (C5.out _ _ _ _ _ HA5.out HE5.out).mono ?_
  rintro e w6 ⟨⟨xo, xc, rfl, ho⟩, hb⟩
  have HB6 := Lib.hid (HB5.out.trans (hb.mono HB5.out.size))
  have HA6 := Lib.hid (HA5.out.after hb)
  have HE6 := Lib.hid (HE5.out.after hb)
  have HI6 := Lib.hid (HI5.out.after hb)
  have HJ6 := Lib.hid (HJ5.out.after hb)
  have HU6 := Lib.hid (HU5.out.after hb)
  have HV6 := Lib.hid (HV5.out.after hb)
  have HD6 := Lib.hid (irow_own HxD.out ho)
  clear hb HB5 HA5 HE5 HI5 HJ5 HU5 HV5
  go_wp2_with fail
  refine (C6.out _ _ _ _ _ HA6.out HE6.out).mono ?_
  rintro e w7 ⟨⟨yo, yc, rfl, ho⟩, hb⟩
  have HB7 := Lib.hid (HB6.out.trans (hb.mono HB6.out.size))
  have HA7 := Lib.hid (HA6.out.after hb)
  have HE7 := Lib.hid (HE6.out.after hb)
  have HI7 := Lib.hid (HI6.out.after hb)
  have HJ7 := Lib.hid (HJ6.out.after hb)
  have HU7 := Lib.hid (HU6.out.after hb)
  have HV7 := Lib.hid (HV6.out.after hb)
  have HD7 := Lib.hid (HD6.out.after hb)
  have HL7 := Lib.hid (irow_own HxD.out ho)
  clear hb HB6 HA6 HE6 HI6 HJ6 HU6 HV6 HD6
  go_wp2_with fail
  refine (sameI _ _ _ _ I hlI _ HI7.out HJ7.out).mono ?_
  rintro e w8 ⟨rfl, hb⟩
  have HB8 := Lib.hid (HB7.out.trans (hb.mono HB7.out.size))
  have HA8 := Lib.hid (HA7.out.after hb)
  have HE8 := Lib.hid (HE7.out.after hb)
  have HI8 := Lib.hid (HI7.out.after hb)
  have HU8 := Lib.hid (HU7.out.after hb)
  have HV8 := Lib.hid (HV7.out.after hb)
  have HD8 := Lib.hid (HD7.out.after hb)
  have HL8 := Lib.hid (HL7.out.after hb)
  clear hb HB7 HA7 HE7 HI7 HJ7 HU7 HV7 HD7 HL7
  go_wp2_with fail
  refine (sameI _ _ _ _ U hlU _ HU8.out HV8.out).mono ?_
  rintro e w9 ⟨rfl, hb⟩
  have HB9 := Lib.hid (HB8.out.trans (hb.mono HB8.out.size))
  have HA9 := Lib.hid (HA8.out.after hb)
  have HE9 := Lib.hid (HE8.out.after hb)
  have HI9 := Lib.hid (HI8.out.after hb)
  have HD9 := Lib.hid (HD8.out.after hb)
  have HL9 := Lib.hid (HL8.out.after hb)
  clear hb HB8 HA8 HE8 HI8 HU8 HV8 HD8 HL8
  go_wp2_with fail
  refine (sameI _ _ _ _ D hlD _ HD9.out HL9.out).mono ?_
  rintro e w10 ⟨rfl, hb⟩
  have HB10 := Lib.hid (HB9.out.trans (hb.mono HB9.out.size))
  have HA10 := Lib.hid (HA9.out.after hb)
  have HE10 := Lib.hid (HE9.out.after hb)
  have HI10 := Lib.hid (HI9.out.after hb)
  have HD10 := Lib.hid (HD9.out.after hb)
  clear hb HB9 HA9 HE9 HI9 HD9 HL9
  cases q1 with
  | false =>
    clear HA10 HE10 HI10 HD10
    go_wp2_with fail
    refine (drawEitherC _ bo m d (HBr.out.after HB10.out) (by omega)).mono ?_
    rintro e w11 ⟨fo, fc, f, ho, hc, g, hlf, hlg, rfl, hF, hG, hb⟩
    have HB11 := Lib.hid (HB10.out.trans (hb.mono HB10.out.size))
    have HF11 := Lib.hid hF
    have HG11 := Lib.hid hG
    clear hb HB10
    have HxE := Lib.hid (eithL_in hF.1 hG.1)
    have hlE : (eithL f g).length ≤ 1048576 := eithL_len (by omega) (by omega)
    have D1 := Lib.hid (fun x y e c W h1 h2 => eitherI x y e c f g (by omega) (by omega) W h1 h2)
    have D2 := Lib.hid (fun x y e c W h1 h2 => eitherM x y e c f g (by omega) (by omega) W h1 h2)
    unfold LbEnd at D1 D2
    generalize eithL f g = Y at D1 D2 HxE hlE
    generalize okE f g = q5 at D1 D2
    have hq5 : (q5 == q5) = true := by cases q5 <;> rfl
    clear hF hG
    go_wp2_with fail
    refine (D1.out _ _ _ _ _ HF11.out HG11.out).mono ?_
    rintro e w12 ⟨⟨ro, rc, rfl, ho⟩, hb⟩
    have HB12 := Lib.hid (HB11.out.trans (hb.mono HB11.out.size))
    have HF12 := Lib.hid (HF11.out.after hb)
    have HG12 := Lib.hid (HG11.out.after hb)
    have HY12 := Lib.hid (irow_own HxE.out ho)
    clear hb HB11 HF11 HG11
    go_wp2_with fail
    refine (D2.out _ _ _ _ _ HF12.out HG12.out).mono ?_
    rintro e w13 ⟨⟨so, sc, rfl, ho⟩, hb⟩
    have HB13 := Lib.hid (HB12.out.trans (hb.mono HB12.out.size))
    have HY13 := Lib.hid (HY12.out.after hb)
    have HS13 := Lib.hid (irow_own HxE.out ho)
    clear hb HB12 HF12 HG12 HY12
    go_wp2_with fail
    refine (drawLessC _ bo m d (HBr.out.after HB13.out) (by omega)).mono ?_
    rintro e w14 ⟨lo, lc, l, t0, tc, t, hll, hlt, rfl, hF, hG, hb⟩
    have HB14 := Lib.hid (HB13.out.trans (hb.mono HB13.out.size))
    have HY14 := Lib.hid (HY13.out.after hb)
    have HS14 := Lib.hid (HS13.out.after hb)
    have HF14 := Lib.hid hF
    have HG14 := Lib.hid hG
    clear hb HB13 HY13 HS13
    have HxT := Lib.hid (lessL_in hF.1 hG.1)
    have hlT : (lessL l t).length ≤ 1048576 := lessL_len (by omega) (by omega)
    have D3 := Lib.hid (fun x y e c W h1 h2 => lessOfI x y e c l t (by omega) (by omega) W h1 h2)
    have D4 := Lib.hid (fun x y e c W h1 h2 => lessOfM x y e c l t (by omega) (by omega) W h1 h2)
    unfold LbEnd at D3 D4
    generalize lessL l t = T at D3 D4 HxT hlT
    generalize okR l t = q6 at D3 D4
    have hq6 : (q6 == q6) = true := by cases q6 <;> rfl
    clear hF hG
    go_wp2_with fail
    refine (D3.out _ _ _ _ _ HF14.out HG14.out).mono ?_
    rintro e w15 ⟨⟨t1, tc, rfl, ho⟩, hb⟩
    have HB15 := Lib.hid (HB14.out.trans (hb.mono HB14.out.size))
    have HY15 := Lib.hid (HY14.out.after hb)
    have HS15 := Lib.hid (HS14.out.after hb)
    have HF15 := Lib.hid (HF14.out.after hb)
    have HG15 := Lib.hid (HG14.out.after hb)
    have HT15 := Lib.hid (irow_own HxT.out ho)
    clear hb HB14 HY14 HS14 HF14 HG14
    go_wp2_with fail
    refine (D4.out _ _ _ _ _ HF15.out HG15.out).mono ?_
    rintro e w16 ⟨⟨eo, ec, rfl, ho⟩, hb⟩
    have HB16 := Lib.hid (HB15.out.trans (hb.mono HB15.out.size))
    have HY16 := Lib.hid (HY15.out.after hb)
    have HS16 := Lib.hid (HS15.out.after hb)
    have HT16 := Lib.hid (HT15.out.after hb)
    have HP16 := Lib.hid (irow_own HxT.out ho)
    clear hb HB15 HY15 HS15 HF15 HG15 HT15
    go_wp2_with fail
    refine (sameI _ _ _ _ Y hlE _ HY16.out HS16.out).mono ?_
    rintro e w17 ⟨rfl, hb⟩
    have HB17 := Lib.hid (HB16.out.trans (hb.mono HB16.out.size))
    have HT17 := Lib.hid (HT16.out.after hb)
    have HP17 := Lib.hid (HP16.out.after hb)
    clear hb HB16 HY16 HS16 HT16 HP16
    go_wp2_with fail
    refine (sameI _ _ _ _ T hlT _ HT17.out HP17.out).mono ?_
    rintro e w18 ⟨rfl, hb⟩
    have HB18 := Lib.hid (HB17.out.trans (hb.mono HB17.out.size))
    clear hb HB17 HT17 HP17
    go_wp2
    go_ret
    exact ⟨rfl, HB18.out⟩
  | true =>
    cases q2 with
    | false =>
      clear HA10 HE10 HI10 HD10
      go_wp2_with fail
      refine (drawEitherC _ bo m d (HBr.out.after HB10.out) (by omega)).mono ?_
      rintro e w11 ⟨fo, fc, f, ho, hc, g, hlf, hlg, rfl, hF, hG, hb⟩
      have HB11 := Lib.hid (HB10.out.trans (hb.mono HB10.out.size))
      have HF11 := Lib.hid hF
      have HG11 := Lib.hid hG
      clear hb HB10
      have HxE := Lib.hid (eithL_in hF.1 hG.1)
      have hlE : (eithL f g).length ≤ 1048576 := eithL_len (by omega) (by omega)
      have D1 := Lib.hid (fun x y e c W h1 h2 => eitherI x y e c f g (by omega) (by omega) W h1 h2)
      have D2 := Lib.hid (fun x y e c W h1 h2 => eitherM x y e c f g (by omega) (by omega) W h1 h2)
      unfold LbEnd at D1 D2
      generalize eithL f g = Y at D1 D2 HxE hlE
      generalize okE f g = q5 at D1 D2
      have hq5 : (q5 == q5) = true := by cases q5 <;> rfl
      clear hF hG
      go_wp2_with fail
      refine (D1.out _ _ _ _ _ HF11.out HG11.out).mono ?_
      rintro e w12 ⟨⟨ro, rc, rfl, ho⟩, hb⟩
      have HB12 := Lib.hid (HB11.out.trans (hb.mono HB11.out.size))
      have HF12 := Lib.hid (HF11.out.after hb)
      have HG12 := Lib.hid (HG11.out.after hb)
      have HY12 := Lib.hid (irow_own HxE.out ho)
      clear hb HB11 HF11 HG11
      go_wp2_with fail
      refine (D2.out _ _ _ _ _ HF12.out HG12.out).mono ?_
      rintro e w13 ⟨⟨so, sc, rfl, ho⟩, hb⟩
      have HB13 := Lib.hid (HB12.out.trans (hb.mono HB12.out.size))
      have HY13 := Lib.hid (HY12.out.after hb)
      have HS13 := Lib.hid (irow_own HxE.out ho)
      clear hb HB12 HF12 HG12 HY12
      go_wp2_with fail
      refine (drawLessC _ bo m d (HBr.out.after HB13.out) (by omega)).mono ?_
      rintro e w14 ⟨lo, lc, l, t0, tc, t, hll, hlt, rfl, hF, hG, hb⟩
      have HB14 := Lib.hid (HB13.out.trans (hb.mono HB13.out.size))
      have HY14 := Lib.hid (HY13.out.after hb)
      have HS14 := Lib.hid (HS13.out.after hb)
      have HF14 := Lib.hid hF
      have HG14 := Lib.hid hG
      clear hb HB13 HY13 HS13
      have HxT := Lib.hid (lessL_in hF.1 hG.1)
      have hlT : (lessL l t).length ≤ 1048576 := lessL_len (by omega) (by omega)
      have D3 := Lib.hid (fun x y e c W h1 h2 => lessOfI x y e c l t (by omega) (by omega) W h1 h2)
      have D4 := Lib.hid (fun x y e c W h1 h2 => lessOfM x y e c l t (by omega) (by omega) W h1 h2)
      unfold LbEnd at D3 D4
      generalize lessL l t = T at D3 D4 HxT hlT
      generalize okR l t = q6 at D3 D4
      have hq6 : (q6 == q6) = true := by cases q6 <;> rfl
      clear hF hG
      go_wp2_with fail
      refine (D3.out _ _ _ _ _ HF14.out HG14.out).mono ?_
      rintro e w15 ⟨⟨t1, tc, rfl, ho⟩, hb⟩
      have HB15 := Lib.hid (HB14.out.trans (hb.mono HB14.out.size))
      have HY15 := Lib.hid (HY14.out.after hb)
      have HS15 := Lib.hid (HS14.out.after hb)
      have HF15 := Lib.hid (HF14.out.after hb)
      have HG15 := Lib.hid (HG14.out.after hb)
      have HT15 := Lib.hid (irow_own HxT.out ho)
      clear hb HB14 HY14 HS14 HF14 HG14
      go_wp2_with fail
      refine (D4.out _ _ _ _ _ HF15.out HG15.out).mono ?_
      rintro e w16 ⟨⟨eo, ec, rfl, ho⟩, hb⟩
      have HB16 := Lib.hid (HB15.out.trans (hb.mono HB15.out.size))
      have HY16 := Lib.hid (HY15.out.after hb)
      have HS16 := Lib.hid (HS15.out.after hb)
      have HT16 := Lib.hid (HT15.out.after hb)
      have HP16 := Lib.hid (irow_own HxT.out ho)
      clear hb HB15 HY15 HS15 HF15 HG15 HT15
      go_wp2_with fail
      refine (sameI _ _ _ _ Y hlE _ HY16.out HS16.out).mono ?_
      rintro e w17 ⟨rfl, hb⟩
      have HB17 := Lib.hid (HB16.out.trans (hb.mono HB16.out.size))
      have HT17 := Lib.hid (HT16.out.after hb)
      have HP17 := Lib.hid (HP16.out.after hb)
      clear hb HB16 HY16 HS16 HT16 HP16
      go_wp2_with fail
      refine (sameI _ _ _ _ T hlT _ HT17.out HP17.out).mono ?_
      rintro e w18 ⟨rfl, hb⟩
      have HB18 := Lib.hid (HB17.out.trans (hb.mono HB17.out.size))
      clear hb HB17 HT17 HP17
      go_wp2
      go_ret
      exact ⟨rfl, HB18.out⟩
    | true =>
      obtain ⟨e1, e2, e3, e4, e5⟩ := HSets.out rfl rfl
      subst e1; subst e2; subst e3; subst e4
      have HL5 := Lib.hid e5
      clear e5 HSets
      go_wp2_with fail
      refine (C7.out _ _ _ _ _ HE10.out HA10.out).mono ?_
      rintro e w11 ⟨⟨go, gc, rfl, ho⟩, hb⟩
      have HB11 := Lib.hid (HB10.out.trans (hb.mono HB10.out.size))
      have HA11 := Lib.hid (HA10.out.after hb)
      have HE11 := Lib.hid (HE10.out.after hb)
      have HI11 := Lib.hid (HI10.out.after hb)
      have HD11 := Lib.hid (HD10.out.after hb)
      clear hb HB10 HA10 HE10 HI10 HD10
      go_wp2_with fail
      refine (C8.out _ _ _ _ _ HE11.out HA11.out).mono ?_
      rintro e w12 ⟨⟨ko, kc, rfl, ho⟩, hb⟩
      have HB12 := Lib.hid (HB11.out.trans (hb.mono HB11.out.size))
      have HA12 := Lib.hid (HA11.out.after hb)
      have HI12 := Lib.hid (HI11.out.after hb)
      have HD12 := Lib.hid (HD11.out.after hb)
      have HK12 := Lib.hid (irow_own HxI.out ho)
      clear hb HB11 HA11 HE11 HI11 HD11
      go_wp2_with fail
      refine (C9.out _ _ _ _ _ HD12.out HI12.out).mono ?_
      rintro e w13 ⟨⟨zo, zc, rfl, ho⟩, hb⟩
      have HB13 := Lib.hid (HB12.out.trans (hb.mono HB12.out.size))
      have HA13 := Lib.hid (HA12.out.after hb)
      have HI13 := Lib.hid (HI12.out.after hb)
      have HK13 := Lib.hid (HK12.out.after hb)
      have HZ13 := Lib.hid (irow_own HA12.out.1 ho)
      clear hb HB12 HA12 HI12 HD12 HK12
      go_wp2_with fail
      refine (sameI _ _ _ _ _ hlI _ HK13.out HI13.out).mono ?_
      rintro e w14 ⟨rfl, hb⟩
      have HB14 := Lib.hid (HB13.out.trans (hb.mono HB13.out.size))
      have HA14 := Lib.hid (HA13.out.after hb)
      have HZ14 := Lib.hid (HZ13.out.after hb)
      clear hb HB13 HA13 HI13 HK13 HZ13
      go_wp2_with fail
      refine (sameI _ _ _ _ _ (by omega) _ HZ14.out HA14.out).mono ?_
      rintro e w15 ⟨rfl, hb⟩
      have HB15 := Lib.hid (HB14.out.trans (hb.mono HB14.out.size))
      clear hb HB14 HA14 HZ14
      have hne : (((J.length : Int) + (D.length : Int) + (G.length : Int)) != (U.length : Int)) = false := by
        have := HL5.out
        simp; omega
    
      go_wp2_with fail
      refine (drawEitherC _ bo m d (HBr.out.after HB15.out) (by omega)).mono ?_
      rintro e w16 ⟨fo, fc, f, ho, hc, g, hlf, hlg, rfl, hF, hG, hb⟩
      have HB16 := Lib.hid (HB15.out.trans (hb.mono HB15.out.size))
      have HF16 := Lib.hid hF
      have HG16 := Lib.hid hG
      clear hb HB15
      have HxE := Lib.hid (eithL_in hF.1 hG.1)
      have hlE : (eithL f g).length ≤ 1048576 := eithL_len (by omega) (by omega)
      have D1 := Lib.hid (fun x y e c W h1 h2 => eitherI x y e c f g (by omega) (by omega) W h1 h2)
      have D2 := Lib.hid (fun x y e c W h1 h2 => eitherM x y e c f g (by omega) (by omega) W h1 h2)
      unfold LbEnd at D1 D2
      generalize eithL f g = Y at D1 D2 HxE hlE
      generalize okE f g = q5 at D1 D2
      have hq5 : (q5 == q5) = true := by cases q5 <;> rfl
      clear hF hG
      go_wp2_with fail
      refine (D1.out _ _ _ _ _ HF16.out HG16.out).mono ?_
      rintro e w17 ⟨⟨ro, rc, rfl, ho⟩, hb⟩
      have HB17 := Lib.hid (HB16.out.trans (hb.mono HB16.out.size))
      have HF17 := Lib.hid (HF16.out.after hb)
      have HG17 := Lib.hid (HG16.out.after hb)
      have HY17 := Lib.hid (irow_own HxE.out ho)
      clear hb HB16 HF16 HG16
      go_wp2_with fail
      refine (D2.out _ _ _ _ _ HF17.out HG17.out).mono ?_
      rintro e w18 ⟨⟨so, sc, rfl, ho⟩, hb⟩
      have HB18 := Lib.hid (HB17.out.trans (hb.mono HB17.out.size))
      have HY18 := Lib.hid (HY17.out.after hb)
      have HS18 := Lib.hid (irow_own HxE.out ho)
      clear hb HB17 HF17 HG17 HY17
      go_wp2_with fail
      refine (drawLessC _ bo m d (HBr.out.after HB18.out) (by omega)).mono ?_
      rintro e w19 ⟨lo, lc, l, t0, tc, t, hll, hlt, rfl, hF, hG, hb⟩
      have HB19 := Lib.hid (HB18.out.trans (hb.mono HB18.out.size))
      have HY19 := Lib.hid (HY18.out.after hb)
      have HS19 := Lib.hid (HS18.out.after hb)
      have HF19 := Lib.hid hF
      have HG19 := Lib.hid hG
      clear hb HB18 HY18 HS18
      have HxT := Lib.hid (lessL_in hF.1 hG.1)
      have hlT : (lessL l t).length ≤ 1048576 := lessL_len (by omega) (by omega)
      have D3 := Lib.hid (fun x y e c W h1 h2 => lessOfI x y e c l t (by omega) (by omega) W h1 h2)
      have D4 := Lib.hid (fun x y e c W h1 h2 => lessOfM x y e c l t (by omega) (by omega) W h1 h2)
      unfold LbEnd at D3 D4
      generalize lessL l t = T at D3 D4 HxT hlT
      generalize okR l t = q6 at D3 D4
      have hq6 : (q6 == q6) = true := by cases q6 <;> rfl
      clear hF hG
      go_wp2_with fail
      refine (D3.out _ _ _ _ _ HF19.out HG19.out).mono ?_
      rintro e w20 ⟨⟨t1, tc, rfl, ho⟩, hb⟩
      have HB20 := Lib.hid (HB19.out.trans (hb.mono HB19.out.size))
      have HY20 := Lib.hid (HY19.out.after hb)
      have HS20 := Lib.hid (HS19.out.after hb)
      have HF20 := Lib.hid (HF19.out.after hb)
      have HG20 := Lib.hid (HG19.out.after hb)
      have HT20 := Lib.hid (irow_own HxT.out ho)
      clear hb HB19 HY19 HS19 HF19 HG19
      go_wp2_with fail
      refine (D4.out _ _ _ _ _ HF20.out HG20.out).mono ?_
      rintro e w21 ⟨⟨eo, ec, rfl, ho⟩, hb⟩
      have HB21 := Lib.hid (HB20.out.trans (hb.mono HB20.out.size))
      have HY21 := Lib.hid (HY20.out.after hb)
      have HS21 := Lib.hid (HS20.out.after hb)
      have HT21 := Lib.hid (HT20.out.after hb)
      have HP21 := Lib.hid (irow_own HxT.out ho)
      clear hb HB20 HY20 HS20 HF20 HG20 HT20
      go_wp2_with fail
      refine (sameI _ _ _ _ Y hlE _ HY21.out HS21.out).mono ?_
      rintro e w22 ⟨rfl, hb⟩
      have HB22 := Lib.hid (HB21.out.trans (hb.mono HB21.out.size))
      have HT22 := Lib.hid (HT21.out.after hb)
      have HP22 := Lib.hid (HP21.out.after hb)
      clear hb HB21 HY21 HS21 HT21 HP21
      go_wp2_with fail
      refine (sameI _ _ _ _ T hlT _ HT22.out HP22.out).mono ?_
      rintro e w23 ⟨rfl, hb⟩
      have HB23 := Lib.hid (HB22.out.trans (hb.mono HB22.out.size))
      clear hb HB22 HT22 HP22
      go_wp2
      go_ret
      exact ⟨rfl, HB23.out⟩
end Go.Proofs.Ytgibjdmjemalcaa
