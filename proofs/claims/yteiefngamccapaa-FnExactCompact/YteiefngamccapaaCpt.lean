/- Contracts of Compact, in the model and in the program, over this seat's translation. -/
import Derived.Test.YteiefngamccapaaAp
import Derived.Test.YteiefngamccapaaGm
import Derived.Test.YteiefngamccapaaJx43
import Derived.Test.YteiefngamccapaaCpMath
import Derived.Deep.RegionLaw
namespace Go.Proofs.Yteiefngamccapaa
open Go.RowKit Go.Deep

theorem set2_belowC {B g : Nat} {w w' : World} {a b : Value} (h : Below B w w') (hg : B ≤ g) : Below B w ((w'.setCell ⟨g, 0, none⟩ a).setCell ⟨g, 1, none⟩ b) := (h.setCell hg _).setCell hg _
theorem BtC.put {w : World} {g : Nat} {a b v : Value} (h : Bt w g a b) : Bt (w.setCell ⟨g, 0, none⟩ v) g v b := by
  obtain ⟨t, h⟩ := h
  exact ⟨t, set_at (i := 0) (v := v) h⟩
theorem BtC.far1 {w : World} {g p i : Nat} {a b v : Value} (h : Bt w g a b) (hne : g ≠ p) : Bt (w.setCell ⟨p, i, none⟩ v) g a b := by
  obtain ⟨t, h⟩ := h
  exact ⟨t, (Below.heap_setCell _ _ _ g (by exact hne)).trans h⟩
/-- What a loop that lays chunks into a series keeps, the samples that are read beside it. -/
def LayC (w : World) (base P z : Nat) (mx : Int) (b0 : Nat) (vx : Value) (x : List Smp) (cs : List Chk) (wr : World) : Prop :=
  ∃ (o : Option Addr) (c : Nat), Bt wr P (.slice o cs.length c) (.int .i64 mx) ∧ wr.ownsRow base 85 4 (.slice o cs.length c) cs.length (cellsG cC cs) ∧ (Value.slice o cs.length c).ownBlock ≠ some P ∧ Bt wr z (.slice none 0 0) (.int .i64 0) ∧ Below w.heap.size w wr ∧ wr.ownsRow b0 42 2 vx x.length (cellsS x) ∧ ∀ k, vx.ownBlock = some k → k ≠ P ∧ k < base
theorem LayC.below {w : World} {base P z b0 : Nat} {mx : Int} {vx : Value} {x : List Smp} {cs : List Chk} {wr w1 : World} (h : LayC w base P z mx b0 vx x cs wr) (hb : Below wr.heap.size wr w1) : LayC w base P z mx b0 vx x cs w1 := by
  obtain ⟨o, c, h1, h2, h3, h4, h5, h6, h7⟩ := h
  exact ⟨o, c, h1.below hb, own_below h2 hb, h3, h4.below hb, h5.trans (hb.mono h5.size), own_below h6 hb, h7⟩
theorem LayC.more {w : World} {base P z b0 : Nat} {mx : Int} {vx : Value} {x : List Smp} {cs : List Chk} {wr w1 : World} {c : Chk} {o : Option Addr} {cp n : Nat} {v : Value} {row : Option Nat}
    (hz : z < base) (hzP : z ≠ P) (hw : w.heap.size ≤ z) (hwP : w.heap.size ≤ P) (h1 : Bt wr P v (.int .i64 mx)) (h4 : Bt wr z (.slice none 0 0) (.int .i64 0)) (h5 : Below w.heap.size w wr) (h6 : wr.ownsRow b0 42 2 vx x.length (cellsS x)) (h7 : ∀ k, vx.ownBlock = some k → k ≠ P ∧ k < base) (hlo : ∀ k, row = some k → base ≤ k) (hp : row ≠ some P)
    (hn : n = cs.length + 1) (ho : w1.ownsRow base 85 4 (.slice o n cp) n (cellsG cC cs ++ cC c)) (hg : wr.grownBy w1 row) (hv : (Value.slice o n cp).ownBlock = row ∨ (Value.slice o n cp).ownBlock = some wr.heap.size) :
    LayC w base P z mx b0 vx x (cs ++ [c]) (w1.setCell ⟨P, 0, none⟩ (.slice o n cp)) := by
  have hl : (cs ++ [c]).length = n := by rw [hn]; simp
  have hvp : (Value.slice o n cp).ownBlock ≠ some P := by
    rcases hv with h | h
    · rw [h]; exact hp
    · rw [h]; intro e; injection e with e; have := h1.lt; omega
  refine ⟨o, cp, ?_, ?_, ?_, ?_, ?_, ?_, h7⟩
  · rw [hl]; exact BtC.put (h1.apart hg hp)
  · rw [hl, cellsG_snoc]; exact own_put ho hvp
  · rw [hl]; exact hvp
  · exact BtC.far1 (h4.apart hg (fun e => by have := hlo _ e; omega)) hzP
  · have hb : Below w.heap.size w w1 := (h5.grown hg h5.size (fun k hk => by have := hlo k hk; omega))
    exact hb.setCell (by dsimp only; omega) _
  · refine own_put (h6.kept hg ?_) (fun e => (h7 _ e).1 rfl)
    cases hv : vx.ownBlock with
    | none => exact .inl rfl
    | some k => exact .inr (fun e => by have := hlo k e.symm; have := (h7 k hv).2; omega)
theorem least88 (a b : Int) (w : World) : Calls Try.prog 88 #[.int .i64 a, .int .i64 b] w fun e w' => e = .returned (.int .i64 (if a < b then a else b)) ∧ w' = w := by
  by_cases h : a < b
  · go_enter Try.func88, Try.ntmps88
    go_wp2
    go_ret
    exact ⟨rfl, rfl⟩
  · go_enter Try.func88, Try.ntmps88
    go_wp2
    go_ret
    exact ⟨rfl, rfl⟩

set_option maxHeartbeats 8000000 in
set_option maxRecDepth 100000 in
theorem cpt69 (ao : Option Addr) (cap : Nat) (l : List Chk) (fl : Int) (h6 : l.length ≤ 6) (hal : allB l = true) (hF : FitC l 1048576) (w : World) (h : CRow w w.heap.size ao l) :
    Calls Try.prog 69 #[.agg #[.slice ao l.length cap, .int .i64 fl]] w (MadeS w.heap.size (cmpL (serL l)) fl w) := by
  have HB1 := Lib.hid ((((Below.refl w.heap.size w).alloc (Nat.le_refl _) (.cells #[.slice ao l.length cap, .int .i64 fl] 29)).alloc (by simp) (.cells #[.slice none 0 0, .int .i64 0] 29)).alloc (by simp; omega) (.cells #[.slice none 0 0, .int .i64 fl] 29))
  have HX1 := Lib.hid (((Bt.new w (.slice ao l.length cap) (.int .i64 fl) 29).alloc (.cells #[.slice none 0 0, .int .i64 0] 29)).alloc (.cells #[.slice none 0 0, .int .i64 fl] 29))
  have HZ1 := Lib.hid ((Bt.new (w.alloc (.cells #[.slice ao l.length cap, .int .i64 fl] 29)) (.slice none 0 0) (.int .i64 0) 29).alloc (.cells #[.slice none 0 0, .int .i64 fl] 29))
  have HP1 := Lib.hid (Bt.new ((w.alloc (.cells #[.slice ao l.length cap, .int .i64 fl] 29)).alloc (.cells #[.slice none 0 0, .int .i64 0] 29)) (.slice none 0 0) (.int .i64 fl) 29)
  simp only [World.size_alloc] at HZ1 HP1
  obtain ⟨w1, hw1⟩ : ∃ W, W = ((w.alloc (.cells #[.slice ao l.length cap, .int .i64 fl] 29)).alloc (.cells #[.slice none 0 0, .int .i64 0] 29)).alloc (.cells #[.slice none 0 0, .int .i64 fl] 29) := ⟨_, rfl⟩
  have x := HX1.out.cells
  obtain ⟨x0, x1, _⟩ := x
  rw [← hw1] at HB1 HX1 HZ1 HP1
  have hpl : w.heap.size + 1 + 1 < w1.heap.size := HP1.out.lt
  have HR1 := Lib.hid (GR.after h HB1.out)
  have HA := Lib.hid (fun W hW => allM ao cap l fl h6 hF hal W hW)
  have h48 : (serL l).length ≤ 48 := by have := serL_len l; omega
  have HFs := Lib.hid (serL_fit l)
  clear h hF hal
  obtain ⟨i0, hi, hz0, hz1, hz2⟩ := info_parts Try.infoC
  generalize serL l = x at HA h48 HFs
  go_enter Try.func69, Try.ntmps69
  go_wp2_with fail
  rw [← hw1]
  clear hw1 x0 x1
  refine (HA.out _ HR1.out).mono ?_
  rintro e w2 ⟨⟨bo, cp, rfl, ho⟩, hb2⟩
  have hcp := own_len ho
  have HL0 : Hid (LayC w w2.heap.size (w.heap.size + 1 + 1) (w.heap.size + 1) fl w1.heap.size (.slice bo x.length cp) x (cmpT x 0) w2) := Lib.hid ⟨none, 0, HP1.out.below hb2, World.ownsRow_nil _ _ _ _, by simp [Value.ownBlock], HZ1.out.below hb2, HB1.out.trans (hb2.mono HB1.out.size), ho, fun k hk => ⟨by have := (ho.lt k hk).1; omega, (ho.lt k hk).2⟩⟩
  have h12 := hb2.size
  clear ho hb2
  go_wp2
  go_loopw [4] (fun v wr => ∃ (j : Nat) (o : Option Addr) (cq : Nat), v = .slice o (x.drop (8 * j)).length cq ∧ (x.drop (8 * j)).length ≤ cq ∧ 8 * j ≤ x.length + 7 ∧ Hid (∀ W B, SRow W B bo x → SRow W B o (x.drop (8 * j))) ∧ Hid (w2.heap.size ≤ wr.heap.size) ∧ Hid (LayC w w2.heap.size (w.heap.size + 1 + 1) (w.heap.size + 1) fl w1.heap.size (.slice bo x.length cp) x (cmpT x j) wr)) (fun v _ => match v with
    | .slice _ n _ => n
    | _ => 0)
  case atStart => exact ⟨0, bo, cp, by simp, by simpa using hcp, by omega, Lib.hid (fun W B h => by simpa using h), Lib.hid (Nat.le_refl _), HL0⟩
  case round =>
    obtain ⟨j, o, cq, rfl, hcq, hj, hSr, hS, hL⟩ := hrel
    by_cases h0 : 0 < (x.drop (8 * j)).length
    case neg =>
      have hd : x.drop (8 * j) = [] := List.eq_nil_of_length_eq_zero (by omega)
      have hx8 : x.length ≤ 8 * j := by have := List.length_drop (i := 8 * j) (l := x); omega
      have HC := Lib.hid (cmpT_all hx8 hj)
      rw [hd]
      simp only [List.length_nil]
      obtain ⟨q, c, hP, hO, hv, hZ, hB, _, _⟩ := hL.out
      rw [HC.out] at hP hO hv
      obtain ⟨p0, p1, pf0, pf1⟩ := hP.cells
      obtain ⟨z0, z1, zf0, zf1⟩ := hZ.cells
      have HO := Lib.hid hO
      have HB := Lib.hid hB
      clear hP hO hv hZ hB hd h0 hcq hx8 hj
      go_wp2
      exact bodyPost_ret (v := .agg #[.slice q (cmpL x).length c, .int .i64 fl]) (by simp [results, Try.results69, go_sem, z0, z1]) rfl ⟨_, rfl, own_lower (own_set (own_set HO.out (by omega)) (by omega)) (by omega), set2_belowC HB.out (by omega)⟩
    have hxl : 8 * j < x.length := by have := List.length_drop (i := 8 * j) (l := x); omega
    have hFd : FitS (x.drop (8 * j)) := HFs.out.drop _
    obtain ⟨n, hn⟩ : ∃ n : Nat, (n = 8 ∧ 8 ≤ (x.drop (8 * j)).length) ∨ (n = (x.drop (8 * j)).length ∧ n ≤ 8) := by
      by_cases h8 : 8 ≤ (x.drop (8 * j)).length
      · exact ⟨8, .inl ⟨rfl, h8⟩⟩
      · exact ⟨_, .inr ⟨rfl, by omega⟩⟩
    have HLe : Hid ((if (8 : Int) < ((x.drop (8 * j)).length : Int) then (8 : Int) else ((x.drop (8 * j)).length : Int)) = (n : Int)) := Lib.hid (by split <;> omega)
    obtain ⟨hct, hcd⟩ := cut_front hn
    have hnl : n ≤ (x.drop (8 * j)).length := by omega
    have hn0 : 0 < n := by omega
    have hn8 : n ≤ 8 := by omega
    have HCS := Lib.hid (cmpT_succ x j)
    obtain ⟨o1, o2, hs1, hs2, hsr⟩ := cut_slices o (x.drop (8 * j)) n cq hnl hcq
    have HS1 := Lib.hid (fun (W : World) (h : SRow W W.heap.size bo x) => (hsr W _ (hSr.out W _ h)).1)
    have HS2 : Hid (∀ W B, SRow W B bo x → SRow W B o2 (x.drop (8 * (j + 1)))) := Lib.hid (fun W B h => by rw [← hcd]; exact (hsr W _ (hSr.out W _ h)).2)
    have hdl : (x.drop (8 * j)).length - n = (x.drop (8 * (j + 1))).length := by rw [← hcd]; exact List.length_drop.symm
    have htl : ((x.drop (8 * j)).take n).length = n := by rw [List.length_take]; omega
    have HPk := Lib.hid (fun W hW => pack77 o1 cq ((x.drop (8 * j)).take n) (hFd.take n) (by omega) W hW)
    rw [htl] at HPk
    rw [hct] at HPk HS1
    have HDl := Lib.hid hdl
    have hcq2 : (x.drop (8 * (j + 1))).length ≤ cq - n := by omega
    have hj2 : 8 * (j + 1) ≤ x.length + 7 := by omega
    have hmeas : (x.drop (8 * (j + 1))).length < (x.drop (8 * j)).length := by omega
    have h0i : (0 : Int) < ((x.drop (8 * j)).length : Int) := by omega
    have hne : x.drop (8 * j) ≠ [] := fun e => by rw [e] at h0; simp at h0
    clear hct hcd hdl htl hsr hFd hn hcq hj
    generalize pkC ((x.drop (8 * j)).take 8) = q at HPk HCS
    generalize ((x.drop (8 * j)).take 8) = pc at HPk HS1
    obtain ⟨q0, q1, q2, q3⟩ := q
    unfold chV at HPk
    simp only at HPk
    have HLs : Hid (∀ W, Calls Try.prog 88 #[.int .i64 8, .int .i64 ((x.drop (8 * j)).length : Int)] W fun e w' => e = .returned (.int .i64 (n : Int)) ∧ w' = W) := Lib.hid (fun W => by have h := least88 8 ((x.drop (8 * j)).length : Int) W; rw [HLe.out] at h; exact h)
    clear HLe
    generalize (x.drop (8 * j)).length = len at *
    obtain ⟨oq, c, hP, hO, hv, hZ, hB, hO6, hV6⟩ := hL.out
    have HP0 := Lib.hid hP
    have HO0 := Lib.hid hO
    have HV0 := Lib.hid hv
    have HZ0 := Lib.hid hZ
    have HB0 := Lib.hid hB
    have HX0 := Lib.hid hO6
    have HV6 := Lib.hid hV6
    have HSx := Lib.hid (fun (W : World) (hb : Below wr.heap.size wr W) => HS1.out W (SRow.of_own (own_below HX0.out hb)).2)
    have hcl := cmpT_len x j
    have hcl6 : (cmpT x j).length ≤ 1000 := by have := hj2; omega
    have hwr2 : w2.heap.size ≤ wr.heap.size := hS.out
    clear hcl hP hO hv hZ hB hO6 hV6
    obtain ⟨p0, p1, pf0, pf1⟩ := HP0.out.cells
    have hb0 := (Below.refl wr.heap.size wr).drew
    have hn00 : (0 : Int) ≤ (n : Int) := by omega
    have hnli : (n : Int) ≤ (len : Int) := by omega
    go_wp2_with fail
    refine (HLs.out _).mono ?_
    rintro e w9 ⟨rfl, rfl⟩
    go_wp2_with fail
    go_region_law (first
      | (refine step_append_any _ rfl _ _ rfl Try.underlying27 hi hz0 hz1 hz2 rfl (by decide) w2.heap.size _ _ _ rfl ((own_below HO0.out hba).alloc _) (some ⟨wa.heap.size, 0, none⟩) 1 1 (cC (q0, q1, q2, q3)) rfl (src_four _ _ _ _ _ _) (cC_ones _) (by unfold maxLen; omega) (by omega) (by simp; omega) ?_; intro v' w5 hown' hgrow hv'; obtain ⟨o', c', rfl⟩ := own_slice hown'; have HP5 := Lib.hid (((HP0.out.below hba).alloc (.cells #[.string q0, .int .i64 q1, .int .i64 q2, .int .i64 q3] 85)).apart hgrow HV0.out); obtain ⟨y0, y1, yf0, yf1⟩ := HP5.out.cells)
      | (go_simp; go_at_call 89; refine (HPk.out _ (HSx.out _ hb0)).mono ?_; rintro e wa ⟨rfl, hba'⟩; have hba := hb0.trans hba'; clear hba'; have hsa := hba.size; obtain ⟨u0, u1, _⟩ := (HP0.out.below hba).cells; obtain ⟨u2, u3, _⟩ := ((HP0.out.below hba).alloc (.cells #[.string q0, .int .i64 q1, .int .i64 q2, .int .i64 q3] 85)).cells))
    all_goals
      have HL5 : Hid (LayC w w2.heap.size (w.heap.size + 1 + 1) (w.heap.size + 1) fl w1.heap.size (.slice bo x.length cp) x (cmpT x (j + 1)) (w5.setCell ⟨w.heap.size + 1 + 1, 0, none⟩ (.slice o' ((cmpT x j).length + 1) c'))) := Lib.hid (by
        rw [HCS.out]
        exact LayC.more (by omega) (by omega) (by omega) (by omega) ((HP0.out.below hba).alloc (.cells #[.string q0, .int .i64 q1, .int .i64 q2, .int .i64 q3] 85)) ((HZ0.out.below hba).alloc (.cells #[.string q0, .int .i64 q1, .int .i64 q2, .int .i64 q3] 85)) ((HB0.out.trans (hba.mono HB0.out.size)).alloc (Nat.le_trans HB0.out.size hba.size) (.cells #[.string q0, .int .i64 q1, .int .i64 q2, .int .i64 q3] 85)) ((own_below HX0.out hba).alloc (.cells #[.string q0, .int .i64 q1, .int .i64 q2, .int .i64 q3] 85)) HV6.out (fun k hk => (HO0.out.lt k hk).1) HV0.out rfl hown' hgrow hv')
      have HS5 : Hid (w2.heap.size ≤ (w5.setCell ⟨w.heap.size + 1 + 1, 0, none⟩ (.slice o' ((cmpT x j).length + 1) c')).heap.size) := Lib.hid (by have h1 := hgrow.size; simp at h1 ⊢; omega)
      clear hown' hgrow hv' p0 p1 pf0 pf1 hba hb0 u0 u1 u2 u3
      go_wp2
      go_roundw
      case rel => exact ⟨j + 1, o2, cq - n, by rw [HDl.out], hcq2, hj2, HS2, HS5, HL5⟩
      case measure => simp; omega

set_option maxHeartbeats 4000000 in
set_option maxRecDepth 100000 in
theorem cpM (ao : Option Addr) (cap : Nat) (l : List Chk) (fl : Int) (hn : l.length ≤ 1048576) (hF : FitC l 1048576) (w : World) (h : CRow w w.heap.size ao l) :
    Calls Try.prog 43 #[.agg #[.slice ao l.length cap, .int .i64 fl]] w (SeEnd (cpR l fl) (cpF l fl) (gsB l fl) w) := by
  have HB0 := Lib.hid (((Below.refl w.heap.size w).alloc (Nat.le_refl _) (.cells #[.slice ao l.length cap, .int .i64 fl] 29)).alloc (by simp) (.cells #[.slice none 0 0, .int .i64 0] 29))
  have HX0 := Lib.hid ((Bt.new w (.slice ao l.length cap) (.int .i64 fl) 29).alloc (.cells #[.slice none 0 0, .int .i64 0] 29))
  have HZ0 := Lib.hid (Bt.new (w.alloc (.cells #[.slice ao l.length cap, .int .i64 fl] 29)) (.slice none 0 0) (.int .i64 0) 29)
  rw [World.size_alloc] at HZ0
  have HR0 := Lib.hid (GR.after h HB0.out)
  have HC := Lib.hid (fun W hW => goodM ao cap l fl hn hF W hW)
  unfold GsEnd at HC
  clear h
  by_cases hg : gsB l fl = true
  case neg =>
    have hg : gsB l fl = false := by simpa using hg
    rw [hg] at HC
    rw [cpR_no hg, cpF_no hg, hg]
    clear hg
    go_enter Try.func43, Try.ntmps43
    go_wp2_with fail
    refine (HC.out _ HR0.out).mono ?_
    rintro e w1 ⟨rfl, hb1⟩
    have HB1 := Lib.hid (HB0.out.trans (hb1.mono HB0.out.size))
    obtain ⟨z0, z1, f0, f1⟩ := (HZ0.out.below hb1).cells
    clear hb1
    go_wp2
    exact bodyPost_ret (v := .tuple #[.agg #[.slice none 0 0, .int .i64 0], .bool false]) (by simp [results, Try.results43, go_sem, z0, z1]) rfl (se_none (set2_belowC HB1.out (by omega)))
  have HCt := Lib.hid (fun W hW => cpt69 ao cap l fl (gs_is hg).len (gs_is hg).all hF W hW)
  rw [hg] at HC
  rw [cpR_yes hg, cpF_yes hg, hg]
  clear hg hn hF
  generalize cmpL (serL l) = y at HCt
  go_enter Try.func43, Try.ntmps43
  go_wp2_with fail
  refine (HC.out _ HR0.out).mono ?_
  rintro e w1 ⟨rfl, hb1⟩
  have HB1 := Lib.hid (HB0.out.trans (hb1.mono HB0.out.size))
  have HX1 := Lib.hid (HX0.out.below hb1)
  have HZ1 := Lib.hid (HZ0.out.below hb1)
  have HR1 := Lib.hid (GR.after HR0.out hb1)
  have hzl : w.heap.size + 1 < w1.heap.size := HZ1.out.lt
  obtain ⟨x0, x1, _⟩ := HX1.out.cells
  clear hb1 HB0 HX0 HZ0 HR0
  go_wp2_with fail
  refine (HCt.out _ HR1.out).mono ?_
  rintro e w3 h3
  obtain ⟨o3, k3, rfl, hO3, _, hb3⟩ := made_ser h3
  have HO3 := Lib.hid hO3
  have HB3 := Lib.hid (HB1.out.trans (hb3.mono HB1.out.size))
  obtain ⟨z0, z1, zf0, zf1⟩ := (HZ1.out.below hb3).cells
  clear h3 hO3 hb3 x0 x1
  go_wp2
  exact bodyPost_ret (v := .tuple #[.agg #[.slice o3 y.length k3, .int .i64 fl], .bool true]) (by simp [results, Try.results43, go_sem, z0, z1]) rfl (se_some (own_lower (own_set (own_set HO3.out (by omega)) (by omega)) (by omega)) (set2_belowC HB3.out (by omega)))
end Go.Proofs.Yteiefngamccapaa
