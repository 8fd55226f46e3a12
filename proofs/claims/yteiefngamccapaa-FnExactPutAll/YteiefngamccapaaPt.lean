/- Contracts of the codes that putting a sample tells, in the model and in the program, over this seat's translation. -/
import Derived.Test.YteiefngamccapaaLo
import Derived.Test.YteiefngamccapaaPtMath
import Derived.Test.YteiefngamccapaaCh
import Derived.Test.YteiefngamccapaaAd
import Derived.Test.YteiefngamccapaaAe
import Derived.Deep.QuietTactic
import Derived.BigQuiet
namespace Go.Proofs.Yteiefngamccapaa
open Go.RowKit Go.Deep

set_option maxHeartbeats 8000000 in
set_option maxRecDepth 100000 in
theorem codeM (ao : Option Addr) (cap : Nat) (l : List Chk) (fl t : Int) (v : Nat) (h6 : l.length ≤ 6) (hF : FitC l 1048576) (hal : allB l = true) (w : World) (h : CRow w w.heap.size ao l) :
    Calls Try.prog 79 #[.agg #[.slice ao l.length cap, .int .i64 fl], .agg #[.int .i64 t, .float .f64 v]] w fun e w' => e = .returned (.int .i64 (cdF l fl (t, v))) ∧ Below w.heap.size w w' := by
  have hst := @run_store_float Try.prog
  have HB0 := Lib.hid (((Below.refl w.heap.size w).alloc (Nat.le_refl _) (.cells #[.slice ao l.length cap, .int .i64 fl] 29)).alloc (by simp) (.cells #[.int .i64 t, .float .f64 v] 42))
  have HX0 := Lib.hid ((Bt.new w (.slice ao l.length cap) (.int .i64 fl) 29).alloc (.cells #[.int .i64 t, .float .f64 v] 42))
  have HY0 := Lib.hid (Bt.new (w.alloc (.cells #[.slice ao l.length cap, .int .i64 fl] 29)) (.int .i64 t) (.float .f64 v) 42)
  rw [World.size_alloc] at HY0
  have HR0 := Lib.hid (GR.after h HB0.out)
  have HL := Lib.hid (fun W hW => last66 ao cap l fl h6 hF hal W hW)
  unfold LsEnd at HL
  have HcA := Lib.hid (fun h => cd_bounds (cs := l) (fl := fl) (x := (t, v)) h)
  have HcS := Lib.hid (fun h h1 h2 h3 => cd_same (cs := l) (fl := fl) (x := (t, v)) h h1 h2 h3)
  have HcT := Lib.hid (fun h h1 h2 h3 => cd_twice (cs := l) (fl := fl) (x := (t, v)) h h1 h2 h3)
  have HcO := Lib.hid (fun h h1 h2 => cd_order (cs := l) (fl := fl) (x := (t, v)) h h1 h2)
  have HcR := Lib.hid (fun h h1 => cd_rest (cs := l) (fl := fl) (x := (t, v)) h h1)
  have HI := Lib.hid (fun W => in105 t (-1000000) 1000000 W)
  clear h hF hal
  generalize lsV (serL l) = q at HL HcS HcT HcO HcR
  generalize lsB (serL l) = lb at HL HcS HcT HcO HcR
  generalize cdF l fl (t, v) = cd at HcA HcS HcT HcO HcR ⊢
  obtain ⟨lt, lv⟩ := q
  simp only at HL HcA HcS HcT HcO HcR
  go_enter Try.func79, Try.ntmps79
  go_wp2_with fail
  refine (HL.out _ HR0.out).mono ?_
  rintro e w1 ⟨rfl, hb1⟩
  have HBw := Lib.hid ((HB0.out.trans (hb1.mono HB0.out.size)).alloc (Nat.le_trans HB0.out.size hb1.size) (.cells #[.int .i64 lt, .float .f64 lv] 42))
  obtain ⟨x0, x1, _⟩ := ((HX0.out.below hb1).alloc (.cells #[.int .i64 lt, .float .f64 lv] 42)).cells
  obtain ⟨y0, y1, _⟩ := ((HY0.out.below hb1).alloc (.cells #[.int .i64 lt, .float .f64 lv] 42)).cells
  have HRw := Lib.hid (GR.below (GR.after HR0.out hb1) ((Below.refl w1.heap.size w1).alloc (Nat.le_refl _) (.cells #[.int .i64 lt, .float .f64 lv] 42)))
  clear hb1 HB0 HX0 HY0 HR0 HL
  by_cases hA : t < fl
  · have HG := Lib.hid (HcA.out (.inl hA))
    go_wp2
    go_ret
    exact ⟨ret_int HG.out.symm, HBw.out⟩
  by_cases hB : (decide (-1000000 ≤ t) && decide (t ≤ 1000000)) = true
  case neg =>
    have hB : (decide (-1000000 ≤ t) && decide (t ≤ 1000000)) = false := by simpa using hB
    have HG := Lib.hid (HcA.out (.inr (fun e => by simp [e.1, e.2] at hB)))
    rw [hB] at HI
    clear hB
    go_wp2_with fail
    refine (HI.out _).mono ?_
    rintro e w2 ⟨rfl, rfl⟩
    go_wp2
    go_ret
    exact ⟨ret_int HG.out.symm, HBw.out⟩
  have hok : ¬ (t < fl ∨ ¬ (-1000000 ≤ t ∧ t ≤ 1000000)) := fun e => by
    simp only [Bool.and_eq_true, decide_eq_true_eq] at hB
    rcases e with e | e
    · exact hA e
    · exact e hB
  rw [hB] at HI
  have HcS := Lib.hid (HcS.out hok)
  have HcT := Lib.hid (HcT.out hok)
  have HcO := Lib.hid (HcO.out hok)
  have HcR := Lib.hid (HcR.out hok)
  clear hB hok HcA
  have hrest : (lb = false ∨ lt < t) → cd = (if l.length = 6 ∧ mF l 5 = 8 then 5 else 0) := HcR.out
  have HRest := Lib.hid hrest
  clear hrest HcR
  by_cases hlb : lb = true
  case neg =>
    have hlb : lb = false := by simpa using hlb
    have HE := Lib.hid (HRest.out (.inl hlb))
    clear HRest HcS HcT HcO
    subst hlb
    by_cases hn6 : l.length = 6
    case neg =>
      have HG : Hid (cd = 0) := Lib.hid (by rw [HE.out, if_neg (fun e => hn6 e.1)])
      have hn6b : ((l.length : Int) == 6) = false := beq_eq_false_iff_ne.2 (by omega)
      clear HE
      go_wp2_with fail
      refine (HI.out _).mono ?_
      rintro e w2 ⟨rfl, rfl⟩
      go_wp2
      go_ret
      exact ⟨ret_int HG.out.symm, HBw.out⟩
    obtain ⟨b, off, hao, hbl, hc0, hc1, hc2, hc3⟩ := HRw.out.oneC (show 5 < l.length by omega)
    rw [mF_at (show 5 < l.length by omega)] at hc1
    subst hao
    clear hc0 hc2 hc3
    have hn6b : ((l.length : Int) == 6) = true := beq_iff_eq.2 (by omega)
    have hw1 : (l.length : Int) - 1 = 5 := by omega
    have h5l : (5 : Int) < (l.length : Int) := by omega
    have h5n : 5 < l.length := by omega
    generalize mF l 5 = m at hc1 HE
    by_cases hm : m = 8
    · have HG : Hid (cd = 5) := Lib.hid (by rw [HE.out, if_pos ⟨hn6, hm⟩])
      subst hm
      clear HE hn6
      go_wp2_with fail
      refine (HI.out _).mono ?_
      rintro e w2 ⟨rfl, rfl⟩
      go_wp2
      go_ret
      exact ⟨ret_int HG.out.symm, HBw.out⟩
    · have HG : Hid (cd = 0) := Lib.hid (by rw [HE.out, if_neg (fun e => hm e.2)])
      have hmb : (m == 8) = false := beq_eq_false_iff_ne.2 hm
      clear HE hn6 hm
      go_wp2_with fail
      refine (HI.out _).mono ?_
      rintro e w2 ⟨rfl, rfl⟩
      go_wp2
      go_ret
      exact ⟨ret_int HG.out.symm, HBw.out⟩
  subst hlb
  rcases Int.lt_trichotomy t lt with h1 | h1 | h1
  · have HG := Lib.hid (HcO.out rfl h1)
    have hne : (t == lt) = false := beq_eq_false_iff_ne.2 (by omega)
    go_wp2_with fail
    refine (HI.out _).mono ?_
    rintro e w2 ⟨rfl, rfl⟩
    go_wp2
    go_ret
    exact ⟨ret_int HG.out.symm, HBw.out⟩
  · subst h1
    have HSm := Lib.hid (fun W => same50 v lv W)
    cases hs : sameB v lv with
    | true =>
      have HG := Lib.hid (HcS.out rfl rfl hs)
      rw [hs] at HSm
      clear hs
      go_wp2_with fail
      refine (HI.out _).mono ?_
      rintro e w2 ⟨rfl, rfl⟩
      go_wp2_with fail
      refine (HSm.out _).mono ?_
      rintro e w3 ⟨rfl, rfl⟩
      go_wp2
      go_ret
      exact ⟨ret_int HG.out.symm, HBw.out⟩
    | false =>
      have HG := Lib.hid (HcT.out rfl rfl hs)
      rw [hs] at HSm
      clear hs
      go_wp2_with fail
      refine (HI.out _).mono ?_
      rintro e w2 ⟨rfl, rfl⟩
      go_wp2_with fail
      refine (HSm.out _).mono ?_
      rintro e w3 ⟨rfl, rfl⟩
      go_wp2
      go_ret
      exact ⟨ret_int HG.out.symm, HBw.out⟩
  · have HE := Lib.hid (HRest.out (.inr h1))
    have hne : (t == lt) = false := beq_eq_false_iff_ne.2 (by omega)
    have hnl : ¬ t < lt := by omega
    clear HRest HcS HcT HcO
    by_cases hn6 : l.length = 6
    case neg =>
      have HG : Hid (cd = 0) := Lib.hid (by rw [HE.out, if_neg (fun e => hn6 e.1)])
      have hn6b : ((l.length : Int) == 6) = false := beq_eq_false_iff_ne.2 (by omega)
      clear HE
      go_wp2_with fail
      refine (HI.out _).mono ?_
      rintro e w2 ⟨rfl, rfl⟩
      go_wp2
      go_ret
      exact ⟨ret_int HG.out.symm, HBw.out⟩
    obtain ⟨b, off, hao, hbl, hc0, hc1, hc2, hc3⟩ := HRw.out.oneC (show 5 < l.length by omega)
    rw [mF_at (show 5 < l.length by omega)] at hc1
    subst hao
    clear hc0 hc2 hc3
    have hn6b : ((l.length : Int) == 6) = true := beq_iff_eq.2 (by omega)
    have hw1 : (l.length : Int) - 1 = 5 := by omega
    have h5l : (5 : Int) < (l.length : Int) := by omega
    have h5n : 5 < l.length := by omega
    generalize mF l 5 = m at hc1 HE
    by_cases hm : m = 8
    · have HG : Hid (cd = 5) := Lib.hid (by rw [HE.out, if_pos ⟨hn6, hm⟩])
      subst hm
      clear HE hn6
      go_wp2_with fail
      refine (HI.out _).mono ?_
      rintro e w2 ⟨rfl, rfl⟩
      go_wp2
      go_ret
      exact ⟨ret_int HG.out.symm, HBw.out⟩
    · have HG : Hid (cd = 0) := Lib.hid (by rw [HE.out, if_neg (fun e => hm e.2)])
      have hmb : (m == 8) = false := beq_eq_false_iff_ne.2 hm
      clear HE hn6 hm
      go_wp2_with fail
      refine (HI.out _).mono ?_
      rintro e w2 ⟨rfl, rfl⟩
      go_wp2
      go_ret
      exact ⟨ret_int HG.out.symm, HBw.out⟩
end Go.Proofs.Yteiefngamccapaa
