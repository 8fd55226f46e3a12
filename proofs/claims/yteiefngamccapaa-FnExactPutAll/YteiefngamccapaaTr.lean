/- Contracts of Truncate, in the model and in the program, over this seat's translation. -/
import Derived.Test.YteiefngamccapaaAp
import Derived.Test.YteiefngamccapaaGm
import Derived.Test.YteiefngamccapaaCu
import Derived.Test.YteiefngamccapaaK15
import Derived.Test.YteiefngamccapaaTrMath
namespace Go.Proofs.Yteiefngamccapaa
open Go.RowKit Go.Deep

theorem set2_belowT {B g : Nat} {w w' : World} {a b : Value} (h : Below B w w') (hg : B ≤ g) : Below B w ((w'.setCell ⟨g, 0, none⟩ a).setCell ⟨g, 1, none⟩ b) := (h.setCell hg _).setCell hg _
theorem Bt.put {w : World} {g : Nat} {a b v : Value} (h : Bt w g a b) : Bt (w.setCell ⟨g, 0, none⟩ v) g v b := by
  obtain ⟨t, h⟩ := h
  exact ⟨t, set_at (i := 0) (v := v) h⟩
theorem Bt.far1 {w : World} {g p i : Nat} {a b v : Value} (h : Bt w g a b) (hne : g ≠ p) : Bt (w.setCell ⟨p, i, none⟩ v) g a b := by
  obtain ⟨t, h⟩ := h
  exact ⟨t, (Below.heap_setCell _ _ _ g (by exact hne)).trans h⟩
/-- What a loop that lays chunks into a series keeps. -/
def LayS (w : World) (base P z : Nat) (mx : Int) (cs : List Chk) (wr : World) : Prop :=
  ∃ (o : Option Addr) (c : Nat), Bt wr P (.slice o cs.length c) (.int .i64 mx) ∧ wr.ownsRow base 85 4 (.slice o cs.length c) cs.length (cellsG cC cs) ∧ (Value.slice o cs.length c).ownBlock ≠ some P ∧ Bt wr z (.slice none 0 0) (.int .i64 0) ∧ Below w.heap.size w wr
theorem LayS.below {w : World} {base P z : Nat} {mx : Int} {cs : List Chk} {wr w1 : World} (h : LayS w base P z mx cs wr) (hb : Below wr.heap.size wr w1) : LayS w base P z mx cs w1 := by
  obtain ⟨o, c, h1, h2, h3, h4, h5⟩ := h
  exact ⟨o, c, h1.below hb, own_below h2 hb, h3, h4.below hb, h5.trans (hb.mono h5.size)⟩
/-- A chunk more is laid. -/
theorem LayS.more {w : World} {base P z : Nat} {mx : Int} {cs : List Chk} {wr w1 : World} {c : Chk} {o : Option Addr} {cp n : Nat} {v : Value} {row : Option Nat}
    (hz : z < base) (hP : base ≤ P) (hw : w.heap.size ≤ z) (h1 : Bt wr P v (.int .i64 mx)) (h4 : Bt wr z (.slice none 0 0) (.int .i64 0)) (h5 : Below w.heap.size w wr) (hlo : ∀ k, row = some k → base ≤ k) (hp : row ≠ some P)
    (hn : n = cs.length + 1) (ho : w1.ownsRow base 85 4 (.slice o n cp) n (cellsG cC cs ++ cC c)) (hg : wr.grownBy w1 row) (hv : (Value.slice o n cp).ownBlock = row ∨ (Value.slice o n cp).ownBlock = some wr.heap.size) :
    LayS w base P z mx (cs ++ [c]) (w1.setCell ⟨P, 0, none⟩ (.slice o n cp)) := by
  have hl : (cs ++ [c]).length = n := by rw [hn]; simp
  have hvp : (Value.slice o n cp).ownBlock ≠ some P := by
    rcases hv with h | h
    · rw [h]; exact hp
    · rw [h]; intro e; injection e with e; have := h1.lt; omega
  refine ⟨o, cp, ?_, ?_, ?_, ?_, ?_⟩
  · rw [hl]; exact (h1.apart hg hp).put
  · rw [hl, cellsG_snoc]; exact own_put ho hvp
  · rw [hl]; exact hvp
  · exact (h4.apart hg (fun e => by have := hlo _ e; omega)).far1 (by omega)
  · have hb : Below w.heap.size w w1 := (h5.grown hg h5.size (fun k hk => by have := hlo k hk; omega))
    exact hb.setCell (by dsimp only; omega) _

set_option maxHeartbeats 8000000 in
set_option maxRecDepth 100000 in
theorem trI (ao : Option Addr) (cap : Nat) (l : List Chk) (fl t : Int) (hn : l.length ≤ 1048576) (hF : FitC l 1048576) (w : World) (h : CRow w w.heap.size ao l) :
    Calls Try.prog 37 #[.agg #[.slice ao l.length cap, .int .i64 fl], .int .i64 t] w (SeEnd (trR l fl t) (trF l fl t) (trB l fl t) w) := by
  have HB0 := Lib.hid (((Below.refl w.heap.size w).alloc (Nat.le_refl _) (.cells #[.slice ao l.length cap, .int .i64 fl] 29)).alloc (by simp) (.cells #[.slice none 0 0, .int .i64 0] 29))
  have HX0 := Lib.hid ((Bt.new w (.slice ao l.length cap) (.int .i64 fl) 29).alloc (.cells #[.slice none 0 0, .int .i64 0] 29))
  have HZ0 := Lib.hid (Bt.new (w.alloc (.cells #[.slice ao l.length cap, .int .i64 fl] 29)) (.slice none 0 0) (.int .i64 0) 29)
  rw [World.size_alloc] at HZ0
  have HR0 := Lib.hid (GR.after h HB0.out)
  have H0 := Lib.hid h
  have HF := Lib.hid hF
  have HC := Lib.hid (fun W hW => goodI ao cap l fl hn HF.out W hW)
  unfold GsEnd at HC
  clear h hF
  by_cases hg : gsB l fl = true
  case neg =>
    have hg : gsB l fl = false := by simpa using hg
    have hb : trB l fl t = false := by unfold trB; rw [hg]; rfl
    rw [hg] at HC
    rw [trR_no hb, trF_no hb, hb]
    clear hg hb
    go_enter Try.func37, Try.ntmps37
    go_wp2_with fail
    refine (HC.out _ HR0.out).mono ?_
    rintro e w1 ⟨rfl, hb1⟩
    have HB1 := Lib.hid (HB0.out.trans (hb1.mono HB0.out.size))
    obtain ⟨z0, z1, f0, f1⟩ := (HZ0.out.below hb1).cells
    clear hb1
    go_wp2
    exact bodyPost_ret (v := .tuple #[.agg #[.slice none 0 0, .int .i64 0], .bool false]) (by simp [results, Try.results37, go_sem, z0, z1]) rfl (se_none (set2_belowT HB1.out (by omega)))
  by_cases hi : (decide (-1000000 ≤ t) && decide (t ≤ 1000000)) = true
  case neg =>
    have hi : (decide (-1000000 ≤ t) && decide (t ≤ 1000000)) = false := by simpa using hi
    have hb : trB l fl t = false := by unfold trB; rw [hi]; simp
    have HI := Lib.hid (fun W => in87 t false hi W)
    rw [hg] at HC
    rw [trR_no hb, trF_no hb, hb]
    clear hg hb hi
    go_enter Try.func37, Try.ntmps37
    go_wp2_with fail
    refine (HC.out _ HR0.out).mono ?_
    rintro e w1 ⟨rfl, hb1⟩
    have HB1 := Lib.hid (HB0.out.trans (hb1.mono HB0.out.size))
    obtain ⟨z0, z1, f0, f1⟩ := (HZ0.out.below hb1).cells
    clear hb1
    go_wp2_with fail
    refine (HI.out _).mono ?_
    rintro e w2 ⟨rfl, rfl⟩
    go_wp2
    exact bodyPost_ret (v := .tuple #[.agg #[.slice none 0 0, .int .i64 0], .bool false]) (by simp [results, Try.results37, go_sem, z0, z1]) rfl (se_none (set2_belowT HB1.out (by omega)))
  have hb : trB l fl t = true := by unfold trB; rw [hg, hi]; rfl
  have HI := Lib.hid (fun W => in87 t true hi W)
  have h6 := (gs_is hg).len
  have HAl := Lib.hid (gs_is hg).all
  rw [hg] at HC
  have HRy := Lib.hid (trR_yes hb)
  have HFy := Lib.hid (trF_yes hb)
  have HBy := Lib.hid hb
  clear hg hb hi hn
  obtain ⟨i0, hi, hz0, hz1, hz2⟩ := info_parts Try.infoC
  obtain ⟨mx, hmx⟩ : ∃ mx, mx = (if fl > t then fl else t) := ⟨_, rfl⟩
  have HMx := Lib.hid hmx
  go_enter Try.func37, Try.ntmps37
  go_wp2_with fail
  refine (HC.out _ HR0.out).mono ?_
  rintro e w1 ⟨rfl, hb1⟩
  have HB1 := Lib.hid (HB0.out.trans (hb1.mono HB0.out.size))
  have HX1 := Lib.hid (HX0.out.below hb1)
  have HZ1 := Lib.hid (HZ0.out.below hb1)
  have hzl : w.heap.size + 1 < w1.heap.size := HZ1.out.lt
  obtain ⟨x0, x1, _⟩ := HX1.out.cells
  clear hb1 HB0 HX0 HZ0 HR0
  go_wp2_with fail
  refine (HI.out _).mono ?_
  rintro e w2 ⟨rfl, rfl⟩
  have hmxv : (max fl t) = mx := by rw [hmx, Int.max_def]; split <;> split <;> omega
  clear hmx
  have HL0 : Hid (LayS w (w.heap.size + 1 + 1) w2.heap.size (w.heap.size + 1) mx (trL (l.take 0) t) (w2.alloc (.cells #[.slice none 0 0, .int .i64 mx] 29))) := Lib.hid ⟨none, 0, Bt.new _ _ _ _, World.ownsRow_nil _ _ _ _, by simp [Value.ownBlock], HZ1.out.alloc _, HB1.out.alloc HB1.out.size _⟩
  obtain ⟨y0, y1, _⟩ := (HX1.out.alloc (.cells #[.slice none 0 0, .int .i64 mx] 29)).cells
  have hPl : w.heap.size + 1 + 1 ≤ w2.heap.size := hzl
  clear HX1 HZ1 HB1
  go_wp2
  go_loopw [29] (fun i wr => ∃ k : Nat, k ≤ l.length ∧ i = .int .i64 k ∧ Hid (LayS w (w.heap.size + 1 + 1) w2.heap.size (w.heap.size + 1) mx (trL (l.take k) t) wr)) (fun i _ => l.length - (intOf i).toNat)
  case atStart => exact ⟨0, Nat.zero_le _, rfl, HL0⟩
  case round =>
    obtain ⟨k, hk, rfl, hL⟩ := hrel
    clear y0 y1 x0 x1
    by_cases hlt : k < l.length
    · obtain ⟨o, c, hP, hO, hv, hZ, hB⟩ := hL.out
      obtain ⟨b, off, hao, hbl, hc0, hc1, hc2, hc3⟩ := (H0.out.below hB).oneC hlt
      subst hao
      have hsz := HF.out.at hlt
      have hso := allB_at HAl.out hlt
      have HKp := Lib.hid (keep_prog (t := t) hso)
      have HY := Lib.hid (tr_yes (t := t) hlt)
      have HN := Lib.hid (tr_no (t := t) hlt)
      have hp := tr_take_len l t k
      generalize l[k] = x at hc0 hc1 hc2 hc3 hsz hso HKp HY HN
      obtain ⟨s, x1, x2, x3⟩ := x
      simp only at hc0 hc1 hc2 hc3 hsz
      have HCt := Lib.hid (fun W => cut33 s x1 x2 x3 t hsz W)
      unfold CtEnd at HCt
      rw [hso] at HCt
      clear hso hsz
      generalize ctA (s, x1, x2, x3) t = p at HCt
      generalize ctB (s, x1, x2, x3) t = q at HCt HKp HY
      obtain ⟨a0, a1, a2, a3⟩ := p
      obtain ⟨q0, q1, q2, q3⟩ := q
      unfold chV at HCt
      simp only at HCt
      have HKp : Hid (keepB t (s, x1, x2, x3) = true ↔ (0 < q1 ∨ x1 = 0)) := HKp
      have HW0 := Lib.hid ((Below.refl wr.heap.size wr).alloc (Nat.le_refl _) (.cells #[.string s, .int .i64 x1, .int .i64 x2, .int .i64 x3] 85))
      have HBx0 := Lib.hid (Bx.new wr (.string s) (.int .i64 x1) (.int .i64 x2) (.int .i64 x3) 85)
      have HP0 := Lib.hid hP
      have HO0 := Lib.hid hO
      have HV0 := Lib.hid hv
      have HZ0 := Lib.hid hZ
      have HB0 := Lib.hid hB
      clear hP hO hv hZ hB
      go_wp2_with fail
      refine (HCt.out _).mono ?_
      rintro e w3 ⟨rfl, hb3⟩
      have hb3a := ((HW0.out.trans (hb3.mono HW0.out.size)).alloc (Nat.le_trans HW0.out.size hb3.size) (.cells #[.string a0, .int .i64 a1, .int .i64 a2, .int .i64 a3] 85)).alloc (by have h1 := HW0.out.size; have h2 := hb3.size; simp at h1 h2 ⊢; omega) (.cells #[.string q0, .int .i64 q1, .int .i64 q2, .int .i64 q3] 85)
      have HP3 := Lib.hid (HP0.out.below hb3a)
      have HO3 := Lib.hid (own_below HO0.out hb3a)
      have HZ3 := Lib.hid (HZ0.out.below hb3a)
      have HB3 := Lib.hid (HB0.out.trans (hb3a.mono HB0.out.size))
      have HL3 := Lib.hid (hL.out.below hb3a)
      obtain ⟨z0, z1, z2, z3, _⟩ := (((HBx0.out.below hb3).alloc (.cells #[.string a0, .int .i64 a1, .int .i64 a2, .int .i64 a3] 85)).alloc (.cells #[.string q0, .int .i64 q1, .int .i64 q2, .int .i64 q3] 85)).cells
      obtain ⟨p0, p1, pf0, pf1⟩ := HP3.out.cells
      clear hb3 hb3a hc0 hc1 hc2 hc3
      by_cases hkp : keepB t (s, x1, x2, x3) = true
      case neg =>
        have HS := Lib.hid (HN.out hkp)
        have hq : ¬ 0 < q1 := fun h => hkp (HKp.out.2 (.inl h))
        have hx : (x1 == 0) = false := beq_eq_false_iff_ne.2 (fun h => hkp (HKp.out.2 (.inr h)))
        have HL4 : Hid (LayS w (w.heap.size + 1 + 1) w2.heap.size (w.heap.size + 1) mx (trL (l.take (k + 1)) t) ((w3.alloc (.cells #[.string a0, .int .i64 a1, .int .i64 a2, .int .i64 a3] 85)).alloc (.cells #[.string q0, .int .i64 q1, .int .i64 q2, .int .i64 q3] 85))) := Lib.hid (by rw [HS.out]; exact HL3.out)
        clear hkp
        go_wp2
        go_roundw
        case rel => exact ⟨k + 1, by omega, by go_num, HL4⟩
        case measure => simp [intOf]; omega
      have HS := Lib.hid (HY.out hkp)
      have hor := HKp.out.1 hkp
      clear hkp
      have hc : 0 < q1 ∨ (¬ 0 < q1 ∧ x1 = 0) := by omega
      clear hor
      rcases hc with hq | ⟨hq, hx⟩
      all_goals
        (try subst hx)
        go_wp2_with (at_builtin; refine wpList_append_more _ rfl _ _ rfl Try.underlying27 hi hz0 hz1 hz2 rfl (by decide) (w.heap.size + 1 + 1) _ _ _ rfl (HO3.out.alloc _) (some ⟨w3.heap.size + 1 + 1, 0, none⟩) 1 1 (cC (q0, q1, q2, q3)) rfl ?k2 (cC_ones _) ?k3 ?k4 ?k5 ?_)
        case k2 => have h := src_four ((w3.alloc (.cells #[.string a0, .int .i64 a1, .int .i64 a2, .int .i64 a3] 85)).alloc (.cells #[.string q0, .int .i64 q1, .int .i64 q2, .int .i64 q3] 85)) (.string q0) (.int .i64 q1) (.int .i64 q2) (.int .i64 q3) 85; simp only [World.size_alloc] at h; exact h
        case k3 => unfold maxLen; omega
        case k4 => omega
        case k5 => have h1 := HP3.out.lt; simp at h1 ⊢; omega
        intro v' w5 hown' hgrow hv'
        obtain ⟨o', c', hvs⟩ := own_slice hown'
        subst hvs
        have HP5 := Lib.hid ((HP3.out.alloc (.cells #[.string q0, .int .i64 q1, .int .i64 q2, .int .i64 q3] 85)).apart hgrow HV0.out)
        have HL5 : Hid (LayS w (w.heap.size + 1 + 1) w2.heap.size (w.heap.size + 1) mx (trL (l.take (k + 1)) t) (w5.setCell ⟨w2.heap.size, 0, none⟩ (.slice o' ((trL (l.take k) t).length + 1) c'))) := Lib.hid (by
          rw [HS.out]
          exact LayS.more (by omega) hPl (by omega) (HP3.out.alloc (.cells #[.string q0, .int .i64 q1, .int .i64 q2, .int .i64 q3] 85)) (HZ3.out.alloc (.cells #[.string q0, .int .i64 q1, .int .i64 q2, .int .i64 q3] 85)) (HB3.out.alloc HB3.out.size (.cells #[.string q0, .int .i64 q1, .int .i64 q2, .int .i64 q3] 85)) (fun k hk => (HO3.out.lt k hk).1) HV0.out rfl hown' hgrow (by simpa only [World.size_alloc] using hv'))
        clear hown' hgrow hv' p0 p1 pf0 pf1
        obtain ⟨p0, p1, pf0, pf1⟩ := HP5.out.cells
        go_wp2
        go_roundw
        case rel => exact ⟨k + 1, by omega, by go_num, HL5⟩
        case measure => simp [intOf]; omega
    · obtain rfl : k = l.length := by omega
      obtain ⟨o, c, hP, hO, hv, hZ, hB⟩ := hL.out
      rw [List.take_length] at hP hO hv
      obtain ⟨p0, p1, pf0, pf1⟩ := hP.cells
      obtain ⟨z0, z1, zf0, zf1⟩ := hZ.cells
      have HO := Lib.hid hO
      have HB := Lib.hid hB
      have HE : Hid (∀ W', Below w.heap.size w W' → W'.ownsRow w.heap.size 85 4 (.slice o (trL l t).length c) (trL l t).length (cellsG cC (trL l t)) → SeEnd (trR l fl t) (trF l fl t) (trB l fl t) w (.returned (.tuple #[.agg #[.slice o (trL l t).length c, .int .i64 mx], .bool true])) W') := Lib.hid (fun W' hb ho => by
        rw [HRy.out, HFy.out, HBy.out, ← HMx.out]; exact se_some ho hb)
      clear hP hO hv hZ hB
      go_wp2
      exact bodyPost_ret (v := .tuple #[.agg #[.slice o (trL l t).length c, .int .i64 mx], .bool true]) (by simp [results, Try.results37, go_sem, z0, z1]) rfl (HE.out _ (set2_belowT HB.out (by omega)) (own_lower (own_set (own_set HO.out (by omega)) (by omega)) (by omega)))

theorem most85 (a b : Int) (w : World) : Calls Try.prog 85 #[.int .i64 a, .int .i64 b] w fun e w' => e = .returned (.int .i64 (if a > b then a else b)) ∧ w' = w := by
  by_cases h : a > b
  · go_enter Try.func85, Try.ntmps85
    go_wp2
    go_ret
    exact ⟨rfl, rfl⟩
  · go_enter Try.func85, Try.ntmps85
    go_wp2
    go_ret
    exact ⟨rfl, rfl⟩

set_option maxHeartbeats 8000000 in
set_option maxRecDepth 100000 in
theorem cut62 (ao : Option Addr) (cap : Nat) (l : List Chk) (fl t : Int) (h6 : l.length ≤ 6) (hal : allB l = true) (hF : FitC l 1048576) (w : World) (h : CRow w w.heap.size ao l) :
    Calls Try.prog 62 #[.agg #[.slice ao l.length cap, .int .i64 fl], .int .i64 t] w (MadeS w.heap.size (trL l t) (if fl > t then fl else t) w) := by
  have HB1 := Lib.hid (((Below.refl w.heap.size w).alloc (Nat.le_refl _) (.cells #[.slice ao l.length cap, .int .i64 fl] 29)).alloc (by simp) (.cells #[.slice none 0 0, .int .i64 0] 29))
  have HX1 := Lib.hid ((Bt.new w (.slice ao l.length cap) (.int .i64 fl) 29).alloc (.cells #[.slice none 0 0, .int .i64 0] 29))
  have HZ1 := Lib.hid (Bt.new (w.alloc (.cells #[.slice ao l.length cap, .int .i64 fl] 29)) (.slice none 0 0) (.int .i64 0) 29)
  rw [World.size_alloc] at HZ1
  obtain ⟨w2, hw2⟩ : ∃ W, W = (w.alloc (.cells #[.slice ao l.length cap, .int .i64 fl] 29)).alloc (.cells #[.slice none 0 0, .int .i64 0] 29) := ⟨_, rfl⟩
  rw [← hw2] at HB1 HX1 HZ1
  have hzl : w.heap.size + 1 < w2.heap.size := HZ1.out.lt
  have H0 := Lib.hid h
  have HF := Lib.hid hF
  have HAl := Lib.hid hal
  clear h hF hal
  obtain ⟨i0, hi, hz0, hz1, hz2⟩ := info_parts Try.infoC
  have HMo := Lib.hid (fun W => most85 fl t W)
  generalize (if fl > t then fl else t) = mx at HMo
  go_enter Try.func62, Try.ntmps62
  go_wp2_with fail
  rw [← hw2]
  clear hw2
  obtain ⟨x0, x1, _⟩ := HX1.out.cells
  refine (HMo.out _).mono ?_
  rintro e w2 ⟨rfl, rfl⟩
  have HL0 : Hid (LayS w (w.heap.size + 1 + 1) w2.heap.size (w.heap.size + 1) mx (trL (l.take 0) t) (w2.alloc (.cells #[.slice none 0 0, .int .i64 mx] 29))) := Lib.hid ⟨none, 0, Bt.new _ _ _ _, World.ownsRow_nil _ _ _ _, by simp [Value.ownBlock], HZ1.out.alloc _, HB1.out.alloc HB1.out.size _⟩
  obtain ⟨y0, y1, _⟩ := (HX1.out.alloc (.cells #[.slice none 0 0, .int .i64 mx] 29)).cells
  have hPl : w.heap.size + 1 + 1 ≤ w2.heap.size := hzl
  clear HX1 HZ1 HB1
  go_wp2
  go_loopw [19] (fun i wr => ∃ k : Nat, k ≤ l.length ∧ i = .int .i64 k ∧ Hid (LayS w (w.heap.size + 1 + 1) w2.heap.size (w.heap.size + 1) mx (trL (l.take k) t) wr)) (fun i _ => l.length - (intOf i).toNat)
  case atStart => exact ⟨0, Nat.zero_le _, rfl, HL0⟩
  case round =>
    obtain ⟨k, hk, rfl, hL⟩ := hrel
    clear y0 y1 x0 x1
    by_cases hlt : k < l.length
    · obtain ⟨o, c, hP, hO, hv, hZ, hB⟩ := hL.out
      obtain ⟨b, off, hao, hbl, hc0, hc1, hc2, hc3⟩ := (H0.out.below hB).oneC hlt
      subst hao
      have hsz := HF.out.at hlt
      have hso := allB_at HAl.out hlt
      have HKp := Lib.hid (keep_model (t := t) hso)
      have HY := Lib.hid (tr_yes (t := t) hlt)
      have HN := Lib.hid (tr_no (t := t) hlt)
      have hp := tr_take_len l t k
      generalize l[k] = x at hc0 hc1 hc2 hc3 hsz hso HKp HY HN
      obtain ⟨s, x1, x2, x3⟩ := x
      simp only at hc0 hc1 hc2 hc3 hsz
      have HCt := Lib.hid (fun W => cut34 s x1 x2 x3 t hsz W)
      unfold CtEnd at HCt
      rw [hso] at HCt
      clear hso hsz
      generalize ctA (s, x1, x2, x3) t = p at HCt
      generalize ctB (s, x1, x2, x3) t = q at HCt HY
      obtain ⟨a0, a1, a2, a3⟩ := p
      obtain ⟨q0, q1, q2, q3⟩ := q
      unfold chV at HCt
      simp only at HCt
      have HKp : Hid (keepB t (s, x1, x2, x3) = true ↔ ¬ (0 < x1 ∧ x3 < t)) := HKp
      have HW0 := Lib.hid ((Below.refl wr.heap.size wr).alloc (Nat.le_refl _) (.cells #[.string s, .int .i64 x1, .int .i64 x2, .int .i64 x3] 85))
      have HP0 := Lib.hid hP
      have HO0 := Lib.hid hO
      have HV0 := Lib.hid hv
      have HZ0 := Lib.hid hZ
      have HB0 := Lib.hid hB
      clear hP hO hv hZ hB
      by_cases hkp : keepB t (s, x1, x2, x3) = true
      case neg =>
        have HS := Lib.hid (HN.out hkp)
        have hdr : 0 < x1 ∧ x3 < t := by
          by_cases h1 : 0 < x1 ∧ x3 < t
          · exact h1
          · exact absurd (HKp.out.2 h1) hkp
        obtain ⟨hd1, hd2⟩ := hdr
        have HL4 : Hid (LayS w (w.heap.size + 1 + 1) w2.heap.size (w.heap.size + 1) mx (trL (l.take (k + 1)) t) (wr.alloc (.cells #[.string s, .int .i64 x1, .int .i64 x2, .int .i64 x3] 85))) := Lib.hid (by rw [HS.out]; exact hL.out.below HW0.out)
        clear hkp
        go_wp2
        go_roundw
        case rel => exact ⟨k + 1, by omega, by go_num, HL4⟩
        case measure => simp [intOf]; omega
      have HS := Lib.hid (HY.out hkp)
      have hor := HKp.out.1 hkp
      clear hkp
      have hc : ¬ 0 < x1 ∨ (0 < x1 ∧ ¬ x3 < t) := by omega
      clear hor
      rcases hc with hq | ⟨hq, hx⟩
      all_goals
        go_wp2_with fail
        refine (HCt.out _).mono ?_
        rintro e w3 ⟨rfl, hb3⟩
        have hb3a := ((HW0.out.trans (hb3.mono HW0.out.size)).alloc (Nat.le_trans HW0.out.size hb3.size) (.cells #[.string a0, .int .i64 a1, .int .i64 a2, .int .i64 a3] 85)).alloc (by have h1 := HW0.out.size; have h2 := hb3.size; simp at h1 h2 ⊢; omega) (.cells #[.string q0, .int .i64 q1, .int .i64 q2, .int .i64 q3] 85)
        have HP3 := Lib.hid (HP0.out.below hb3a)
        have HO3 := Lib.hid (own_below HO0.out hb3a)
        have HZ3 := Lib.hid (HZ0.out.below hb3a)
        have HB3 := Lib.hid (HB0.out.trans (hb3a.mono HB0.out.size))
        obtain ⟨p0, p1, pf0, pf1⟩ := HP3.out.cells
        clear hb3 hb3a hc0 hc1 hc2 hc3
        go_wp2_with (at_builtin; refine wpList_append_more _ rfl _ _ rfl Try.underlying27 hi hz0 hz1 hz2 rfl (by decide) (w.heap.size + 1 + 1) _ _ _ rfl (HO3.out.alloc _) (some ⟨w3.heap.size + 1 + 1, 0, none⟩) 1 1 (cC (q0, q1, q2, q3)) rfl ?k2 (cC_ones _) ?k3 ?k4 ?k5 ?_)
        case k2 => have h := src_four ((w3.alloc (.cells #[.string a0, .int .i64 a1, .int .i64 a2, .int .i64 a3] 85)).alloc (.cells #[.string q0, .int .i64 q1, .int .i64 q2, .int .i64 q3] 85)) (.string q0) (.int .i64 q1) (.int .i64 q2) (.int .i64 q3) 85; simp only [World.size_alloc] at h; exact h
        case k3 => unfold maxLen; omega
        case k4 => omega
        case k5 => have h1 := HP3.out.lt; simp at h1 ⊢; omega
        intro v' w5 hown' hgrow hv'
        obtain ⟨o', c', hvs⟩ := own_slice hown'
        subst hvs
        have HP5 := Lib.hid ((HP3.out.alloc (.cells #[.string q0, .int .i64 q1, .int .i64 q2, .int .i64 q3] 85)).apart hgrow HV0.out)
        have HL5 : Hid (LayS w (w.heap.size + 1 + 1) w2.heap.size (w.heap.size + 1) mx (trL (l.take (k + 1)) t) (w5.setCell ⟨w2.heap.size, 0, none⟩ (.slice o' ((trL (l.take k) t).length + 1) c'))) := Lib.hid (by
          rw [HS.out]
          exact LayS.more (by omega) hPl (by omega) (HP3.out.alloc (.cells #[.string q0, .int .i64 q1, .int .i64 q2, .int .i64 q3] 85)) (HZ3.out.alloc (.cells #[.string q0, .int .i64 q1, .int .i64 q2, .int .i64 q3] 85)) (HB3.out.alloc HB3.out.size (.cells #[.string q0, .int .i64 q1, .int .i64 q2, .int .i64 q3] 85)) (fun k hk => (HO3.out.lt k hk).1) HV0.out rfl hown' hgrow (by simpa only [World.size_alloc] using hv'))
        clear hown' hgrow hv' p0 p1 pf0 pf1
        obtain ⟨p0, p1, pf0, pf1⟩ := HP5.out.cells
        go_wp2
        go_roundw
        case rel => exact ⟨k + 1, by omega, by go_num, HL5⟩
        case measure => simp [intOf]; omega
    · obtain rfl : k = l.length := by omega
      obtain ⟨o, c, hP, hO, hv, hZ, hB⟩ := hL.out
      rw [List.take_length] at hP hO hv
      obtain ⟨p0, p1, pf0, pf1⟩ := hP.cells
      obtain ⟨z0, z1, zf0, zf1⟩ := hZ.cells
      have HO := Lib.hid hO
      have HB := Lib.hid hB
      clear hP hO hv hZ hB
      go_wp2
      exact bodyPost_ret (v := .agg #[.slice o (trL l t).length c, .int .i64 mx]) (by simp [results, Try.results62, go_sem, z0, z1]) rfl ⟨_, rfl, own_lower (own_set (own_set HO.out (by omega)) (by omega)) (by omega), set2_belowT HB.out (by omega)⟩

set_option maxHeartbeats 8000000 in
set_option maxRecDepth 100000 in
theorem trM (ao : Option Addr) (cap : Nat) (l : List Chk) (fl t : Int) (hn : l.length ≤ 1048576) (hF : FitC l 1048576) (w : World) (h : CRow w w.heap.size ao l) :
    Calls Try.prog 36 #[.agg #[.slice ao l.length cap, .int .i64 fl], .int .i64 t] w (SeEnd (trR l fl t) (trF l fl t) (trB l fl t) w) := by
  have HB0 := Lib.hid (((Below.refl w.heap.size w).alloc (Nat.le_refl _) (.cells #[.slice ao l.length cap, .int .i64 fl] 29)).alloc (by simp) (.cells #[.slice none 0 0, .int .i64 0] 29))
  have HX0 := Lib.hid ((Bt.new w (.slice ao l.length cap) (.int .i64 fl) 29).alloc (.cells #[.slice none 0 0, .int .i64 0] 29))
  have HZ0 := Lib.hid (Bt.new (w.alloc (.cells #[.slice ao l.length cap, .int .i64 fl] 29)) (.slice none 0 0) (.int .i64 0) 29)
  rw [World.size_alloc] at HZ0
  have HR0 := Lib.hid (GR.after h HB0.out)
  have HC := Lib.hid (fun W hW => goodM ao cap l fl hn hF W hW)
  have HI := Lib.hid (fun W => in105 t (-1000000) 1000000 W)
  unfold GsEnd at HC
  clear h
  by_cases hg : gsB l fl = true
  case neg =>
    have hg : gsB l fl = false := by simpa using hg
    have hb : trB l fl t = false := by unfold trB; rw [hg]; rfl
    rw [hg] at HC
    rw [trR_no hb, trF_no hb, hb]
    clear hg hb
    go_enter Try.func36, Try.ntmps36
    go_wp2_with fail
    refine (HC.out _ HR0.out).mono ?_
    rintro e w1 ⟨rfl, hb1⟩
    have HB1 := Lib.hid (HB0.out.trans (hb1.mono HB0.out.size))
    obtain ⟨z0, z1, f0, f1⟩ := (HZ0.out.below hb1).cells
    clear hb1
    go_wp2
    exact bodyPost_ret (v := .tuple #[.agg #[.slice none 0 0, .int .i64 0], .bool false]) (by simp [results, Try.results36, go_sem, z0, z1]) rfl (se_none (set2_belowT HB1.out (by omega)))
  by_cases hi : (decide (-1000000 ≤ t) && decide (t ≤ 1000000)) = true
  case neg =>
    have hi : (decide (-1000000 ≤ t) && decide (t ≤ 1000000)) = false := by simpa using hi
    have hb : trB l fl t = false := by unfold trB; rw [hi]; simp
    rw [hi] at HI
    rw [hg] at HC
    rw [trR_no hb, trF_no hb, hb]
    clear hg hb hi
    go_enter Try.func36, Try.ntmps36
    go_wp2_with fail
    refine (HC.out _ HR0.out).mono ?_
    rintro e w1 ⟨rfl, hb1⟩
    have HB1 := Lib.hid (HB0.out.trans (hb1.mono HB0.out.size))
    obtain ⟨z0, z1, f0, f1⟩ := (HZ0.out.below hb1).cells
    clear hb1
    go_wp2_with fail
    refine (HI.out _).mono ?_
    rintro e w2 ⟨rfl, rfl⟩
    go_wp2
    exact bodyPost_ret (v := .tuple #[.agg #[.slice none 0 0, .int .i64 0], .bool false]) (by simp [results, Try.results36, go_sem, z0, z1]) rfl (se_none (set2_belowT HB1.out (by omega)))
  have hb : trB l fl t = true := by unfold trB; rw [hg, hi]; rfl
  have HCt := Lib.hid (fun W hW => cut62 ao cap l fl t (gs_is hg).len (gs_is hg).all hF W hW)
  rw [hi] at HI
  rw [hg] at HC
  rw [trR_yes hb, trF_yes hb, hb]
  clear hg hb hi hn hF
  generalize (if fl > t then fl else t) = mx at HCt
  generalize trL l t = y at HCt
  go_enter Try.func36, Try.ntmps36
  go_wp2_with fail
  refine (HC.out _ HR0.out).mono ?_
  rintro e w1 ⟨rfl, hb1⟩
  have HB1 := Lib.hid (HB0.out.trans (hb1.mono HB0.out.size))
  have HX1 := Lib.hid (HX0.out.below hb1)
  have HZ1 := Lib.hid (HZ0.out.below hb1)
  have HR1 := Lib.hid (GR.after HR0.out hb1)
  have hzl : w.heap.size + 1 < w1.heap.size := HZ1.out.lt
  obtain ⟨x0, x1, _⟩ := HX1.out.cells
  clear hb1 HB0 HX0 HZ0 HR0
  go_wp2_with fail
  refine (HI.out _).mono ?_
  rintro e w2 ⟨rfl, rfl⟩
  go_wp2_with fail
  refine (HCt.out _ HR1.out).mono ?_
  rintro e w3 h3
  obtain ⟨o3, k3, rfl, hO3, _, hb3⟩ := made_ser h3
  have HO3 := Lib.hid hO3
  have HB3 := Lib.hid (HB1.out.trans (hb3.mono HB1.out.size))
  obtain ⟨z0, z1, zf0, zf1⟩ := (HZ1.out.below hb3).cells
  clear h3 hO3 hb3 x0 x1
  go_wp2
  exact bodyPost_ret (v := .tuple #[.agg #[.slice o3 y.length k3, .int .i64 mx], .bool true]) (by simp [results, Try.results36, go_sem, z0, z1]) rfl (se_some (own_lower (own_set (own_set HO3.out (by omega)) (by omega)) (by omega)) (set2_belowT HB3.out (by omega)))
end Go.Proofs.Yteiefngamccapaa
