/- Contracts of the codes that putting a sample tells, in the program, over this seat's translation. -/
import Derived.Test.YteiefngamccapaaLo
import Derived.Test.YteiefngamccapaaPtMath
import Derived.Test.YteiefngamccapaaCh
import Derived.Deep.QuietTactic
import Derived.BigQuiet
namespace Go.Proofs.Yteiefngamccapaa
open Go.RowKit Go.Deep

theorem same95 (t : Int) (v : Nat) (lt : Int) (lv : Nat) (w : World) : Calls Try.prog 95 #[.agg #[.int .i64 t, .float .f64 v], .agg #[.int .i64 lt, .float .f64 lv]] w fun e w' => e = .returned (.bool (decide (t = lt) && sameB v lv)) ∧ Below w.heap.size w w' := by
  have hst := @run_store_float Try.prog
  have HB0 := Lib.hid (((Below.refl w.heap.size w).alloc (Nat.le_refl _) (.cells #[.int .i64 t, .float .f64 v] 42)).alloc (by simp) (.cells #[.int .i64 lt, .float .f64 lv] 42))
  have HS := Lib.hid (fun W => same26 v lv W)
  generalize sameB v lv = s at HS ⊢
  by_cases h : t = lt
  · subst h
    go_enter Try.func95, Try.ntmps95
    go_wp2_with fail
    refine (HS.out _).mono ?_
    rintro e w1 ⟨rfl, rfl⟩
    go_wp2
    go_ret
    exact ⟨ret_bool (by simp), HB0.out⟩
  · have hb : (t == lt) = false := beq_eq_false_iff_ne.2 h
    go_enter Try.func95, Try.ntmps95
    go_wp2
    go_ret
    exact ⟨ret_bool (by simp [h]), HB0.out⟩

/-- Whether the last chunk has room. -/
def roomB (l : List Chk) : Bool := decide (0 < l.length) && decide (mF l (l.length - 1) < 8)
set_option maxHeartbeats 4000000 in
set_option maxRecDepth 100000 in
theorem room82 (p : Nat) (ao : Option Addr) (cap : Nat) (l : List Chk) (fl : Int) (hn : l.length ≤ 1048576) (w : World) (hp : Bt w p (.slice ao l.length cap) (.int .i64 fl)) (h : CRow w w.heap.size ao l) :
    Calls Try.prog 82 #[.pointer (some ⟨p, 0, none⟩)] w fun e w' => e = .returned (.bool (roomB l)) ∧ ∃ q, w' = w.drewN q := by
  by_cases hpos : 0 < l.length
  case neg =>
    obtain rfl : l = [] := List.eq_nil_of_length_eq_zero (by omega)
    simp only [List.length_nil] at hp
    go_enter Try.func82, Try.ntmps82
    go_wp2_with fail
    refine (last_zero p ao cap fl _ hp).mono ?_
    rintro e w2 ⟨rfl, q, rfl⟩
    go_wp2
    go_ret
    exact ⟨rfl, q, rfl⟩
  obtain ⟨m, hm⟩ : ∃ m, m + 1 = l.length := ⟨l.length - 1, by omega⟩
  obtain ⟨b, off, hao, hbl, hc0, hc1, hc2, hc3⟩ := h.oneC (show m < l.length by omega)
  rw [mF_at (show m < l.length by omega)] at hc1
  subst hao
  have HR : Hid (roomB l = decide (mF l m < 8)) := Lib.hid (by unfold roomB; rw [show l.length - 1 = m by omega, decide_eq_true hpos]; rfl)
  have HLc := Lib.hid (fun W hW => last_some p b off cap l.length m fl hm hn W hW)
  have HP := Lib.hid hp
  generalize mF l m = x at hc1 HR
  generalize roomB l = r at HR ⊢
  clear hc0 hc2 hc3 hm h hp
  go_enter Try.func82, Try.ntmps82
  go_wp2_with fail
  refine (HLc.out _ HP.out).mono ?_
  rintro e w2 ⟨rfl, q, rfl⟩
  have hd1 : (w.drewN q).cell? ⟨b, off + m * 4 + 1, none⟩ = some (.int .i64 x) := hc1
  clear hc1
  have HQ := Lib.hid (⟨q, rfl⟩ : ∃ q', w.drewN q = w.drewN q')
  go_wp2
  go_ret
  exact ⟨ret_bool HR.out.symm, HQ.out⟩

set_option maxHeartbeats 8000000 in
set_option maxRecDepth 100000 in
theorem codeI (p : Nat) (ao : Option Addr) (cap : Nat) (l : List Chk) (fl t : Int) (v : Nat) (h6 : l.length ≤ 6) (hF : FitC l 1048576) (hal : allB l = true) (w : World) (hp : Bt w p (.slice ao l.length cap) (.int .i64 fl)) (h : CRow w w.heap.size ao l) :
    Calls Try.prog 81 #[.pointer (some ⟨p, 0, none⟩), .agg #[.int .i64 t, .float .f64 v]] w fun e w' => e = .returned (.int .i64 (cdF l fl (t, v))) ∧ Below w.heap.size w w' := by
  have hst := @run_store_float Try.prog
  have HB0 := Lib.hid ((Below.refl w.heap.size w).alloc (Nat.le_refl _) (.cells #[.int .i64 t, .float .f64 v] 42))
  have HY0 := Lib.hid (Bt.new w (.int .i64 t) (.float .f64 v) 42)
  have HP0 := Lib.hid (hp.alloc (.cells #[.int .i64 t, .float .f64 v] 42))
  have HR0 := Lib.hid (GR.after h HB0.out)
  have HL := Lib.hid (fun W hP hW => lastI p ao cap l fl (by omega) hF W hP hW)
  unfold LsEnd at HL
  have HAl := Lib.hid hal
  have HcA := Lib.hid (fun h => cd_bounds (cs := l) (fl := fl) (x := (t, v)) h)
  have HcS := Lib.hid (fun h h1 h2 h3 => cd_same (cs := l) (fl := fl) (x := (t, v)) h h1 h2 h3)
  have HcT := Lib.hid (fun h h1 h2 h3 => cd_twice (cs := l) (fl := fl) (x := (t, v)) h h1 h2 h3)
  have HcO := Lib.hid (fun h h1 h2 => cd_order (cs := l) (fl := fl) (x := (t, v)) h h1 h2)
  have HcR := Lib.hid (fun h h1 => cd_rest (cs := l) (fl := fl) (x := (t, v)) h h1)
  clear h hp hF hal
  generalize lsV (serL l) = q at HL HcS HcT HcO HcR
  generalize lsB (serL l) = lb at HL HcS HcT HcO HcR
  generalize cdF l fl (t, v) = cd at HcA HcS HcT HcO HcR ⊢
  obtain ⟨lt, lv⟩ := q
  simp only at HL HcA HcS HcT HcO HcR
  obtain ⟨W0, hW0⟩ : ∃ W, W = w.alloc (.cells #[.int .i64 t, .float .f64 v] 42) := ⟨_, rfl⟩
  rw [← hW0] at HB0 HY0 HP0 HR0
  go_enter Try.func81, Try.ntmps81
  go_wp2_with fail
  rw [← hW0]
  clear hW0
  obtain ⟨y0, y1, _⟩ := HY0.out.cells
  obtain ⟨p0, p1, _⟩ := HP0.out.cells
  by_cases hB : (decide (-1000000 ≤ t) && decide (t ≤ 1000000)) = true
  case neg =>
    have hB : (decide (-1000000 ≤ t) && decide (t ≤ 1000000)) = false := by simpa using hB
    have HG := Lib.hid (HcA.out (.inr (fun e => by simp [e.1, e.2] at hB)))
    have HI := Lib.hid (fun W => in87 t false hB W)
    clear hB
    go_quiet ((go_at_call 48; exact Calls.quiet_of_same (HI.out _)))
    have HD := Lib.hid (below_drewN HB0.out nq)
    go_wp2
    go_ret
    exact ⟨ret_int HG.out.symm, HD.out⟩
  have HI := Lib.hid (fun W => in87 t true hB W)
  by_cases hA : t < fl
  · have HG := Lib.hid (HcA.out (.inl hA))
    clear hB
    go_quiet ((go_at_call 48; exact Calls.quiet_of_same (HI.out _)))
    have HD := Lib.hid (below_drewN HB0.out nq)
    go_wp2
    go_ret
    exact ⟨ret_int HG.out.symm, HD.out⟩
  have hok : ¬ (t < fl ∨ ¬ (-1000000 ≤ t ∧ t ≤ 1000000)) := fun e => by
    simp only [Bool.and_eq_true, decide_eq_true_eq] at hB
    rcases e with e | e
    · exact hA e
    · exact e hB
  have HcS := Lib.hid (HcS.out hok)
  have HcT := Lib.hid (HcT.out hok)
  have HcO := Lib.hid (HcO.out hok)
  have HRest := Lib.hid (HcR.out hok)
  clear hB hok HcA HcR
  go_quiet ((go_at_call 48; exact Calls.quiet_of_same (HI.out _)))
  have HB1 := Lib.hid (below_drewN HB0.out nq)
  have HY1 := Lib.hid (HY0.out.drewN nq)
  have HP1 := Lib.hid (HP0.out.drewN nq)
  have HR1 : Hid (CRow (W0.drewN nq) (W0.drewN nq).heap.size ao l) := Lib.hid (GR.after HR0.out (below_drewN (Below.refl _ _) nq))
  clear HB0 HY0 HP0 HR0 y0 y1 p0 p1 hA
  generalize W0.drewN nq = W1 at HB1 HY1 HP1 HR1
  go_wp2_with fail
  refine (HL.out _ HP1.out HR1.out).mono ?_
  rintro e w2 ⟨rfl, hb2⟩
  have hW2a := (Below.refl w2.heap.size w2).alloc (Nat.le_refl _) (.cells #[.int .i64 lt, .float .f64 lv] 42)
  have hb2a := hb2.trans (hW2a.mono hb2.size)
  have HB2 := Lib.hid (HB1.out.trans (hb2a.mono HB1.out.size))
  have HY2 := Lib.hid (HY1.out.below hb2a)
  have HP2 := Lib.hid (HP1.out.below hb2a)
  have HR2 := Lib.hid (GR.after HR1.out hb2a)
  have HQ2 := Lib.hid (Bt.new w2 (.int .i64 lt) (.float .f64 lv) 42)
  obtain ⟨W2, hW2⟩ : ∃ W, W = w2.alloc (.cells #[.int .i64 lt, .float .f64 lv] 42) := ⟨_, rfl⟩
  rw [← hW2] at HB2 HY2 HP2 HR2 HQ2
  have yy := HY2.out.cells
  have pp := HP2.out.cells
  rw [hW2] at yy pp
  obtain ⟨y2, y3, _⟩ := yy
  obtain ⟨p2, p3, _⟩ := pp
  clear hb2 hb2a hW2a HB1 HY1 HP1 HR1 HL HI
  have HSm := Lib.hid (fun W => same95 t v lt lv W)
  by_cases hlb : lb = true
  case neg =>
    have hlb : lb = false := by simpa using hlb
    have HE := Lib.hid (HRest.out (.inl hlb))
    clear HRest HcS HcT HcO HSm
    subst hlb
    by_cases hn6 : l.length = 6
    case neg =>
      have HG : Hid (cd = 0) := Lib.hid (by rw [HE.out, if_neg (fun e => hn6 e.1)])
      have hn6b : ((l.length : Int) == 6) = false := beq_eq_false_iff_ne.2 (by omega)
      clear HE
      go_wp2_with fail
      rw [← hW2]
      obtain ⟨q0, q1, _⟩ := HP2.out.cells
      go_wp2
      go_ret
      exact ⟨ret_int HG.out.symm, HB2.out⟩
    have hn6b : ((l.length : Int) == 6) = true := beq_iff_eq.2 (by omega)
    have hm8 := mF_le HAl.out (show 5 < l.length by omega)
    have hrm : roomB l = decide (mF l 5 < 8) := by unfold roomB; rw [hn6]; rfl
    have HRm := Lib.hid (fun W hP hR => room82 p ao cap l fl (by omega) W hP hR)
    rw [hrm] at HRm
    generalize mF l 5 = m at HE HRm hm8
    by_cases hm : m = 8
    · have HG : Hid (cd = 5) := Lib.hid (by rw [HE.out, if_pos ⟨hn6, hm⟩])
      rw [show decide (m < 8) = false from decide_eq_false (by omega)] at HRm
      clear HE hn6 hm hm8 hrm
      go_wp2_with fail
      rw [← hW2]
      obtain ⟨q0, q1, _⟩ := HP2.out.cells
      go_wp2_with fail
      refine (HRm.out _ HP2.out HR2.out).mono ?_
      rintro e w7 ⟨rfl, q7, rfl⟩
      have HB7 := Lib.hid (below_drewN HB2.out q7)
      go_wp2
      go_ret
      (try rw [← hW2])
      exact ⟨ret_int HG.out.symm, HB7.out⟩
    · have HG : Hid (cd = 0) := Lib.hid (by rw [HE.out, if_neg (fun e => hm e.2)])
      rw [show decide (m < 8) = true from decide_eq_true (by omega)] at HRm
      clear HE hn6 hm hm8 hrm
      go_wp2_with fail
      rw [← hW2]
      obtain ⟨q0, q1, _⟩ := HP2.out.cells
      go_wp2_with fail
      refine (HRm.out _ HP2.out HR2.out).mono ?_
      rintro e w7 ⟨rfl, q7, rfl⟩
      have HB7 := Lib.hid (below_drewN HB2.out q7)
      go_wp2
      go_ret
      (try rw [← hW2])
      exact ⟨ret_int HG.out.symm, HB7.out⟩
  subst hlb
  rcases Int.lt_trichotomy t lt with h1 | h1 | h1
  · have HG := Lib.hid (HcO.out rfl h1)
    have hne : (t == lt) = false := beq_eq_false_iff_ne.2 (by omega)
    rw [show decide (t = lt) = false from decide_eq_false (by omega), Bool.false_and] at HSm
    clear HcS HcT HcO HRest
    go_wp2_with fail
    rw [← hW2]
    refine (HSm.out _).mono ?_
    rintro e w6 ⟨rfl, hb6⟩
    have HB6 := Lib.hid (HB2.out.trans (hb6.mono HB2.out.size))
    have HP6 := Lib.hid (HP2.out.below hb6)
    have HR6 := Lib.hid (GR.after HR2.out hb6)
    obtain ⟨q0, q1, _⟩ := HP6.out.cells
    obtain ⟨y4, y5, _⟩ := (HY2.out.below hb6).cells
    obtain ⟨l4, l5, _⟩ := (HQ2.out.below hb6).cells
    clear hb6
    go_wp2
    go_ret
    exact ⟨ret_int HG.out.symm, HB6.out⟩
  · subst h1
    cases hs : sameB v lv with
    | true =>
      have HG := Lib.hid (HcS.out rfl rfl hs)
      rw [hs, decide_eq_true rfl, Bool.true_and] at HSm
      clear hs HcS HcT HcO HRest
      go_wp2_with fail
      rw [← hW2]
      refine (HSm.out _).mono ?_
      rintro e w6 ⟨rfl, hb6⟩
      have HB6 := Lib.hid (HB2.out.trans (hb6.mono HB2.out.size))
      have HP6 := Lib.hid (HP2.out.below hb6)
      have HR6 := Lib.hid (GR.after HR2.out hb6)
      obtain ⟨q0, q1, _⟩ := HP6.out.cells
      obtain ⟨y4, y5, _⟩ := (HY2.out.below hb6).cells
      obtain ⟨l4, l5, _⟩ := (HQ2.out.below hb6).cells
      clear hb6
      go_wp2
      go_ret
      exact ⟨ret_int HG.out.symm, HB6.out⟩
    | false =>
      have HG := Lib.hid (HcT.out rfl rfl hs)
      rw [hs, decide_eq_true rfl, Bool.true_and] at HSm
      clear hs HcS HcT HcO HRest
      go_wp2_with fail
      rw [← hW2]
      refine (HSm.out _).mono ?_
      rintro e w6 ⟨rfl, hb6⟩
      have HB6 := Lib.hid (HB2.out.trans (hb6.mono HB2.out.size))
      have HP6 := Lib.hid (HP2.out.below hb6)
      have HR6 := Lib.hid (GR.after HR2.out hb6)
      obtain ⟨q0, q1, _⟩ := HP6.out.cells
      obtain ⟨y4, y5, _⟩ := (HY2.out.below hb6).cells
      obtain ⟨l4, l5, _⟩ := (HQ2.out.below hb6).cells
      clear hb6
      go_wp2
      go_ret
      exact ⟨ret_int HG.out.symm, HB6.out⟩
  · have HE := Lib.hid (HRest.out (.inr h1))
    have hne : (t == lt) = false := beq_eq_false_iff_ne.2 (by omega)
    have hnl : ¬ t < lt := by omega
    rw [show decide (t = lt) = false from decide_eq_false (by omega), Bool.false_and] at HSm
    clear HRest HcS HcT HcO
    by_cases hn6 : l.length = 6
    case neg =>
      have HG : Hid (cd = 0) := Lib.hid (by rw [HE.out, if_neg (fun e => hn6 e.1)])
      have hn6b : ((l.length : Int) == 6) = false := beq_eq_false_iff_ne.2 (by omega)
      clear HE
      go_wp2_with fail
      rw [← hW2]
      refine (HSm.out _).mono ?_
      rintro e w6 ⟨rfl, hb6⟩
      have HB6 := Lib.hid (HB2.out.trans (hb6.mono HB2.out.size))
      have HP6 := Lib.hid (HP2.out.below hb6)
      have HR6 := Lib.hid (GR.after HR2.out hb6)
      obtain ⟨q0, q1, _⟩ := HP6.out.cells
      obtain ⟨y4, y5, _⟩ := (HY2.out.below hb6).cells
      obtain ⟨l4, l5, _⟩ := (HQ2.out.below hb6).cells
      clear hb6
      go_wp2
      go_ret
      exact ⟨ret_int HG.out.symm, HB6.out⟩
    have hn6b : ((l.length : Int) == 6) = true := beq_iff_eq.2 (by omega)
    have hm8 := mF_le HAl.out (show 5 < l.length by omega)
    have hrm : roomB l = decide (mF l 5 < 8) := by unfold roomB; rw [hn6]; rfl
    have HRm := Lib.hid (fun W hP hR => room82 p ao cap l fl (by omega) W hP hR)
    rw [hrm] at HRm
    generalize mF l 5 = m at HE HRm hm8
    by_cases hm : m = 8
    · have HG : Hid (cd = 5) := Lib.hid (by rw [HE.out, if_pos ⟨hn6, hm⟩])
      rw [show decide (m < 8) = false from decide_eq_false (by omega)] at HRm
      clear HE hn6 hm hm8 hrm
      go_wp2_with fail
      rw [← hW2]
      refine (HSm.out _).mono ?_
      rintro e w6 ⟨rfl, hb6⟩
      have HB6 := Lib.hid (HB2.out.trans (hb6.mono HB2.out.size))
      have HP6 := Lib.hid (HP2.out.below hb6)
      have HR6 := Lib.hid (GR.after HR2.out hb6)
      obtain ⟨q0, q1, _⟩ := HP6.out.cells
      obtain ⟨y4, y5, _⟩ := (HY2.out.below hb6).cells
      obtain ⟨l4, l5, _⟩ := (HQ2.out.below hb6).cells
      clear hb6
      go_wp2_with fail
      refine (HRm.out _ HP6.out HR6.out).mono ?_
      rintro e w7 ⟨rfl, q7, rfl⟩
      have HB7 := Lib.hid (below_drewN HB6.out q7)
      go_wp2
      go_ret
      exact ⟨ret_int HG.out.symm, HB7.out⟩
    · have HG : Hid (cd = 0) := Lib.hid (by rw [HE.out, if_neg (fun e => hm e.2)])
      rw [show decide (m < 8) = true from decide_eq_true (by omega)] at HRm
      clear HE hn6 hm hm8 hrm
      go_wp2_with fail
      rw [← hW2]
      refine (HSm.out _).mono ?_
      rintro e w6 ⟨rfl, hb6⟩
      have HB6 := Lib.hid (HB2.out.trans (hb6.mono HB2.out.size))
      have HP6 := Lib.hid (HP2.out.below hb6)
      have HR6 := Lib.hid (GR.after HR2.out hb6)
      obtain ⟨q0, q1, _⟩ := HP6.out.cells
      obtain ⟨y4, y5, _⟩ := (HY2.out.below hb6).cells
      obtain ⟨l4, l5, _⟩ := (HQ2.out.below hb6).cells
      clear hb6
      go_wp2_with fail
      refine (HRm.out _ HP6.out HR6.out).mono ?_
      rintro e w7 ⟨rfl, q7, rfl⟩
      have HB7 := Lib.hid (below_drewN HB6.out q7)
      go_wp2
      go_ret
      exact ⟨ret_int HG.out.symm, HB7.out⟩
end Go.Proofs.Yteiefngamccapaa
