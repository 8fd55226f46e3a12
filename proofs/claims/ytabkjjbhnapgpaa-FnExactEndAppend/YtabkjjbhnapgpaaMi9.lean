/- Contract of the marks that a ledger is told as, in the program; over this seat's translation. -/
import Derived.Test.YtabkjjbhnapgpaaVi9
import Derived.Test.YtabkjjbhnapgpaaNq
import Derived.Deep.RegionLaw
import Derived.Deep.DeepCutAuto
namespace Go.Proofs.Ytabkjjbhnapgpaa
open Go.RowKit Go.Deep Go.ChangeShapes Go.WideShapes Go.ChangeAt

set_option maxHeartbeats 8000000 in
set_option maxRecDepth 100000 in
theorem tellI (last : Int) (oo : Option Addr) (oc : Nat) (op : List Int) (ro : Option Addr) (rc n : Nat) (g : Nat → Vw) (hp : op.length ≤ 1048576) (hn : n ≤ 1048576) (hm : ∀ k, k < n → (g k).xs.length ≤ 1048576) (w : World) (h1 : IRow w w.heap.size oo op) (h2 : VF rC w w.heap.size ro n g) :
    Calls Try.prog 47 #[.agg #[.int .i64 last, .slice oo op.length oc, .slice ro n rc]] w fun e w' => ∃ v, e = .returned v ∧ MkEnd last op (conL n g) w v w' := by
  have hb0 := ((Below.refl w.heap.size w).alloc (Nat.le_refl _) (.cells #[.int .i64 last, .slice oo op.length oc, .slice ro n rc] 61)).alloc (by simp) (.cells #[.int .i64 0, .slice none 0 0, .slice none 0 0] 30)
  have HX0 := Lib.hid ((B3.new w (.int .i64 last) (.slice oo op.length oc) (.slice ro n rc) 61).alloc (.cells #[.int .i64 0, .slice none 0 0, .slice none 0 0] 30))
  have HX1 := Lib.hid (B3.new (w.alloc (.cells #[.int .i64 last, .slice oo op.length oc, .slice ro n rc] 61)) (.int .i64 0) (.slice none 0 0) (.slice none 0 0) 30)
  rw [World.size_alloc] at HX1
  have HB0 := Lib.hid hb0
  have h : IRow w w.heap.size oo op ∧ VF rC w w.heap.size ro n g := ⟨h1, h2⟩
  have H := Lib.hid h
  have HM := Lib.hid hm
  have H0 := Lib.hid (show IRow _ _ oo op ∧ VF rC _ _ ro n g from ⟨h.1.below hb0.size hb0, h.2.below hb0.size hb0⟩)
  have HOw := Lib.hid (fun ao cap l hl W hW => cloneI ao cap l hl W hW)
  obtain ⟨i0, hi, hz0, hz1, hz2⟩ := info_parts Try.infoV
  have hsz : ((w.alloc (.cells #[.int .i64 last, .slice oo op.length oc, .slice ro n rc] 61)).alloc (.cells #[.int .i64 0, .slice none 0 0, .slice none 0 0] 30)).heap.size = w.heap.size + 1 + 1 := by simp
  clear h h1 h2 hm hb0
  go_enter Try.func47, Try.ntmps47
  go_wp2_with fail
  generalize (w.alloc (.cells #[.int .i64 last, .slice oo op.length oc, .slice ro n rc] 61)).alloc (.cells #[.int .i64 0, .slice none 0 0, .slice none 0 0] 30) = w0 at HB0 HX0 HX1 H0 hsz ⊢
  have HSz := Lib.hid hsz
  obtain ⟨x0, x1, x2⟩ := HX0.out.cells
  have hb0 := (Below.refl w0.heap.size w0).drew
  have HOpA := Lib.hid (HOw.out oo oc op hp w0.drew (H0.out.1.below hb0.size hb0))
  have hbn := ((Below.refl w0.heap.size w0).alloc (Nat.le_refl _) (.cells #[.int .i64 0, .slice none 0 0, .slice none 0 0] 30)).drew
  have HOpB := Lib.hid (HOw.out oo oc op hp (w0.alloc (.cells #[.int .i64 0, .slice none 0 0, .slice none 0 0] 30)).drew (H0.out.1.below hbn.size hbn))
  have HYn := Lib.hid (B3.new w0 (.int .i64 0) (.slice none 0 0) (.slice none 0 0) 30).drew
  obtain ⟨xb0, xb1, xb2⟩ := (HX0.out.alloc (.cells #[.int .i64 0, .slice none 0 0, .slice none 0 0] 30)).cells
  have HbA := Lib.hid hb0
  have HbB := Lib.hid hbn
  have hsn : (w0.alloc (.cells #[.int .i64 0, .slice none 0 0, .slice none 0 0] 30)).drew.heap.size = w0.heap.size + 1 := by simp [World.drew]
  have hsa : w0.drew.heap.size = w0.heap.size := rfl
  have HSn := Lib.hid hsn
  have HSa := Lib.hid hsa
  have HNb := Lib.hid (fun (wa : World) (bo : Option Addr) (bc : Nat) (ho : wa.ownsRow (w0.alloc (.cells #[.int .i64 0, .slice none 0 0, .slice none 0 0] 30)).drew.heap.size 3 1 (.slice bo op.length bc) op.length (op.map (Value.int .i64))) => show ob bo ≠ some w0.heap.size from fun e => by have h1 := own_ob ho _ e; rw [hsn] at h1; omega)
  have HLe : Hid (w0.heap.size ≤ (w0.alloc (.cells #[.int .i64 0, .slice none 0 0, .slice none 0 0] 30)).drew.heap.size) := Lib.hid (by rw [hsn]; omega)
  clear hsz hb0 hbn hsn hsa
  go_upto_region 1 with fail
  go_cut [3] (fun s wx => ∃ (X : Nat) (bo : Option Addr) (bc : Nat), s = .pointer (some ⟨X, 0, none⟩) ∧ Hid (Mb w0 last op X bo bc wx))
  case first =>
    go_region_with ((go_at_call 78; first
      | ((with_reducible refine Calls.mono HOpA.out ?_); rintro e wa ⟨⟨bo, bc, rfl, hoa'⟩, hba'⟩; have hba := HbA.out.trans (hba'.mono (Nat.le_of_eq HSa.out.symm)); have hoa := own_lower hoa' (Nat.le_of_eq HSa.out.symm); clear hba' hoa'; obtain ⟨u0, u1, u2⟩ := (HX0.out.below hba).cells; obtain ⟨ua0, ua1, ua2⟩ := ((HX0.out.below hba).alloc (.cells #[.int .i64 0, .slice none 0 0, .slice none 0 0] 30)).cells)
      | ((with_reducible refine Calls.mono HOpB.out ?_); rintro e wa ⟨⟨bo, bc, rfl, hoa'⟩, hba'⟩; have hYa := HYn.out.below hba'; have hba := HbB.out.trans (hba'.mono HbB.out.size); have hnb := HNb.out _ _ _ hoa'; have hoa := own_lower hoa' HLe.out; clear hba' hoa'; obtain ⟨u0, u1, u2⟩ := (HX0.out.below hba).cells; obtain ⟨v0, v1, v2⟩ := hYa.cells; have f0 := hYa.free 0; have f1 := hYa.free 1; have f2 := hYa.free 2)))
    all_goals
      go_wp2_with fail
      go_meet
      first
        | (with_reducible exact ⟨_, _, _, rfl, Lib.hid (mb_new _ hoa hba)⟩)
        | (with_reducible exact ⟨_, _, _, rfl, Lib.hid (mb_old hYa hoa hba hnb)⟩)
  case rest =>
  trace_state
  obtain ⟨X, bo, bc, rfl, HMb⟩ := hcut
  obtain ⟨hX, hO, hnX, hge, hbX⟩ := HMb.out
  obtain ⟨w1, rfl⟩ : ∃ W : World, W = wc := ⟨_, rfl⟩
  have hsz := HSz.out
  have HL0 : Hid (Lo w X (w.heap.size + 1 + 1) last bo bc op g 0 w1) := Lib.hid ⟨none, 0, g, hX, MOwn.start g (by rw [← hsz]; exact hO), MNo.start g hnX, HX1.out.below hbX, fun i hi => absurd hi (by omega), HB0.out.trans (hbX.mono HB0.out.size)⟩
  have HV := Lib.hid (H0.out.2.below hbX.size hbX)
  have hXl : w.heap.size + 1 + 1 ≤ X := by omega
  obtain ⟨x0, x1, x2⟩ := (HX0.out.below hbX).cells
  clear hX hO hnX hge hbX HMb HOpA HOpB HYn HbA HbB HSn HSa HNb HLe
  go_wp2
  go_loopw [17] (fun i wr => ∃ k : Nat, k ≤ n ∧ i = .int .i64 k ∧ Hid (Lo w X (w.heap.size + 1 + 1) last bo bc op g k wr)) (fun i _ => n - (intOf i).toNat)
  case atStart => exact ⟨0, Nat.zero_le _, rfl, HL0⟩
  case round =>
    obtain ⟨k, hk, rfl, hL⟩ := hrel
    by_cases hlt : k < n
    · obtain ⟨ro', rc', g', hX, hM, hN, hX1, hcn, hB⟩ := hL.out
      obtain ⟨b, off, hao, hbl, c0, c1, c2⟩ := (H.out.2.below hB.size hB).oneR hlt
      subst hao
      have hi1 := (H.out.2.below hB.size hB).2 k hlt
      have hba2 := (Below.refl wr.heap.size wr).alloc (Nat.le_refl _) (.cells #[.int .i64 (g k).top, .slice (g k).ao (g k).xs.length (g k).cap, .int .i64 (g k).id] 85)
      have HMo := Lib.hid (hM.below hba2)
      have HNo := Lib.hid hN
      have HX2 := Lib.hid (hX.below hba2)
      have HX3 := Lib.hid (hX1.below hba2)
      have HY := Lib.hid (B3.new wr (.int .i64 (g k).top) (.slice (g k).ao (g k).xs.length (g k).cap) (.int .i64 (g k).id) 85)
      have HB := Lib.hid (hB.alloc hB.size (.cells #[.int .i64 (g k).top, .slice (g k).ao (g k).xs.length (g k).cap, .int .i64 (g k).id] 85))
      have HOk := Lib.hid (viewI (g k) (HM.out k hlt) _ ((hi1.below hba2.size hba2).drew))
      have HCn := Lib.hid (fun (bo2 : Option Addr) (bc2 : Nat) (i : Nat) (hi : i < k + 1) => show ((fun i => if i = k then (⟨(g k).id, (g k).top, bo2, bc2, (g k).xs⟩ : Vw) else g' i) i).con = (g i).con from by
        by_cases e : i = k
        · simp only [e, if_true]; rfl
        · simp only [e, if_false]; exact hcn i (by omega))
      have hXw : X < (wr.alloc (.cells #[.int .i64 (g k).top, .slice (g k).ao (g k).xs.length (g k).cap, .int .i64 (g k).id] 85)).heap.size := (hX.below hba2).lt
      have hsw : w.heap.size + 1 + 1 ≤ (wr.alloc (.cells #[.int .i64 (g k).top, .slice (g k).ao (g k).xs.length (g k).cap, .int .i64 (g k).id] 85)).heap.size := by have := hX1.lt; simp; omega
      clear hX hM hN hX1 hcn hB hL hi1 hba2 HL0
      generalize g k = v at c0 c1 c2 HMo HNo HX2 HX3 HY HB HOk HCn hXw hsw
      obtain ⟨vi, vt, va, vc, vx⟩ := v
      simp only at c0 c1 c2 HMo HNo HX2 HX3 HY HB HOk HCn hXw hsw
      go_wp2_with fail
      generalize wr.alloc (.cells #[.int .i64 vt, .slice va vx.length vc, .int .i64 vi] 85) = W2 at HMo HX2 HX3 HY HB HOk hXw hsw ⊢
      obtain ⟨y0, y1, y2⟩ := HX2.out.cells
      obtain ⟨z0, z1, z2⟩ := HY.out.cells
      have hb0 := (Below.refl W2.heap.size W2).drew
      have hkn : k ≤ 1048576 := by omega
      have HSt := Lib.hid (fun (wa w3 : World) (bo2 o' : Option Addr) (bc2 c' : Nat) (hba : Below W2.heap.size W2 wa) (hoa : wa.ownsRow W2.heap.size 3 1 (.slice bo2 vx.length bc2) vx.length (vx.map (Value.int .i64)))
        (hgrow : (wa.alloc (.cells #[.int .i64 vi, .int .i64 vt, .slice bo2 vx.length bc2] 43)).grownBy w3 (Value.slice ro' k rc').ownBlock) (hown' : w3.ownsRow (w.heap.size + 1 + 1) 43 3 (.slice o' (k + 1) c') (k + 1) (cellsF vC g' k ++ [.int .i64 vi, .int .i64 vt, .slice bo2 vx.length bc2]))
        (hv' : (Value.slice o' (k + 1) c').ownBlock = (Value.slice ro' k rc').ownBlock ∨ (Value.slice o' (k + 1) c').ownBlock = some (wa.alloc (.cells #[.int .i64 vi, .int .i64 vt, .slice bo2 vx.length bc2] 43)).heap.size)
        (hX4 : B3 w3 X (.int .i64 last) (.slice bo op.length bc) (.slice ro' k rc')) => show Lo w X (w.heap.size + 1 + 1) last bo bc op g (k + 1) (w3.setCell ⟨X, 2, none⟩ (.slice o' (k + 1) c')) from by
          have hnew : ∀ x, ob bo2 = some x → X < x := fun x hx => by have := own_ob hoa x hx; omega
          have hbl2 := hba.alloc hba.size (.cells #[.int .i64 vi, .int .i64 vt, .slice bo2 vx.length bc2] 43)
          simp only [ob_is] at hv' hgrow
          have hSt := HMo.out.step (v := ⟨vi, vt, bo2, bc2, vx⟩) hbl2 (hoa.alloc _) hgrow hown' hv' (by omega)
          have hNt := HNo.out.step (v := ⟨vi, vt, bo2, bc2, vx⟩) hv' (by have := hbl2.size; omega) hnew
          exact ⟨o', c', _, hX4.set2 _, hSt.put hNt _, hNt, (((HX3.out.below hba).alloc _).apart hgrow (fun e => by have := own_ob HMo.out.2.1 _ e; omega)).other (by show w.heap.size + 1 ≠ X; omega) _, HCn.out bo2 bc2, (((HB.out.trans (hba.mono HB.out.size)).alloc (Nat.le_trans HB.out.size hba.size) _).grown hgrow (by simp; have := hba.size; omega) (fun q hq => by have := own_ob HMo.out.2.1 q hq; omega)).setCell (by show w.heap.size ≤ X; omega) _⟩)
      go_region_law (first
        | (refine step_append_any _ rfl _ _ rfl Try.underlying28 hi hz0 hz1 hz2 rfl (by decide) (w.heap.size + 1 + 1) _ _ _ rfl ((own_below HMo.out.2.1 hba).alloc _) (some ⟨wa.heap.size, 0, none⟩) 1 1 [.int .i64 vi, .int .i64 vt, .slice bo2 vx.length bc2] rfl (src_three _ _ _ _ _) (vC_ones ⟨vi, vt, bo2, bc2, vx⟩) (by unfold maxLen; omega) (by omega) (by simp; omega) ?_; intro v' w3 hown' hgrow hv'; obtain ⟨o', c', rfl⟩ := own_slice hown'; have HX4 := Lib.hid (((HX2.out.below hba).alloc (.cells #[.int .i64 vi, .int .i64 vt, .slice bo2 vx.length bc2] 43)).apart hgrow (ob_ne (n := k) (c := rc') HNo.out.2.1)); obtain ⟨q0, q1, q2⟩ := HX4.out.cells; have qf2 := HX4.out.free 2)
        | (go_simp; go_at_call 64; refine HOk.out.mono ?_; rintro e wa ⟨bo2, bc2, rfl, hoa, hba'⟩; have hba := hb0.trans hba'; clear hba'; have hsa := hba.size; obtain ⟨u0, u1, u2⟩ := (HX2.out.below hba).cells; obtain ⟨u3, u4, u5⟩ := ((HX2.out.below hba).alloc (.cells #[.int .i64 vi, .int .i64 vt, .slice bo2 vx.length bc2] 43)).cells; obtain ⟨u6, u7, u8⟩ := (HY.out.below hba).cells; obtain ⟨u9, u10, u11⟩ := ((HY.out.below hba).alloc (.cells #[.int .i64 vi, .int .i64 vt, .slice bo2 vx.length bc2] 43)).cells))
      all_goals
        have HE := Lib.hid (HSt.out _ _ _ _ _ _ hba hoa hgrow hown' hv' HX4.out)
        clear hown' hgrow hv' q0 q1 q2 qf2 y0 y1 y2 z0 z1 z2 hba hb0 u0 u1 u2 u3 u4 u5 u6 u7 u8 u9 u10 u11 hoa HSt HOk
        go_wp2
        go_roundw
        case rel => exact ⟨k + 1, by omega, by go_num, HE⟩
        case measure => simp [intOf]; omega
    · obtain rfl : k = n := by omega
      obtain ⟨ro', rc', g', hX, hM, hN, hX1, hcn, hB⟩ := hL.out
      have hD := hM.done (H.out.1.1) (fun i hi x hx => (H.out.2.2 i hi).1 x (by have := congrArg (fun c : Vc => c.2.2) (hcn i hi); change (g' i).xs = (g i).xs at this; rw [← this]; exact hx))
      have HE : Hid (∀ w3, Only (fun i => i = w.heap.size + 1) wr w3 → MkEnd last op (conL k g) w (.agg #[.int .i64 last, .slice bo op.length bc, .slice ro' k rc']) w3) := Lib.hid (fun w3 ho => by
        have hno : ∀ i, MS bo op ro' k g' i → ¬ i = w.heap.size + 1 := fun i hi e => by have := hD.2.ge i hi; omega
        exact ⟨_, _, _, _, k, g', rfl, conL_congr hcn, hD.1.only ho hno, (hD.2.only hD.1 ho).lower (by omega), hB.trans (ho.below (B := w.heap.size) (fun i _ hi => by omega) hB.size)⟩)
      obtain ⟨y0, y1, y2⟩ := hX.cells
      obtain ⟨z0, z1, z2⟩ := hX1.cells
      have f0 := hX1.free 0; have f1 := hX1.free 1; have f2 := hX1.free 2
      clear hX hM hN hX1 hcn hB hL hD HL0 x0 x1 x2
      go_wp2
      exact bodyPost_ret (v := .agg #[.int .i64 last, .slice bo op.length bc, .slice ro' k rc']) (by simp [results, Try.results47, go_sem, z0, z1, z2]) rfl ⟨_, rfl, HE.out _ (only_set3 _ _ _ _ _ _ _)⟩
end Go.Proofs.Ytabkjjbhnapgpaa
