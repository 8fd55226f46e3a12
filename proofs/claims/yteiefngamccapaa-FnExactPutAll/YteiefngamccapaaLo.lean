/- Contracts of LastOf, in the model and in the program, over this seat's translation. -/
import Derived.Test.YteiefngamccapaaLs
import Derived.Test.YteiefngamccapaaGm
import Derived.Test.YteiefngamccapaaAp
namespace Go.Proofs.Yteiefngamccapaa
open Go.RowKit Go.Deep

/-- What the last sample of a series is, where the series is good. -/
noncomputable def loV (cs : List Chk) (fl : Int) : Smp := if gsB cs fl = true then lsV (serL cs) else (0, 0)
noncomputable def loB (cs : List Chk) (fl : Int) : Bool := gsB cs fl && lsB (serL cs)
theorem lo_no {cs : List Chk} {fl : Int} (h : gsB cs fl = false) : loV cs fl = (0, 0) ∧ loB cs fl = false := by
  unfold loV loB; rw [if_neg (by rw [h]; decide), h]; exact ⟨rfl, rfl⟩
theorem lo_yes {cs : List Chk} {fl : Int} (h : gsB cs fl = true) : loV cs fl = lsV (serL cs) ∧ loB cs fl = lsB (serL cs) := by
  unfold loV loB; rw [if_pos h, h]; exact ⟨rfl, rfl⟩
def LoEnd (v : Smp) (b : Bool) (w : World) (e : Ending) (w' : World) : Prop := e = .returned (.tuple #[.agg #[.int .i64 v.1, .float .f64 v.2], .bool b]) ∧ Below w.heap.size w w'

set_option maxHeartbeats 4000000 in
set_option maxRecDepth 100000 in
theorem last66 (ao : Option Addr) (cap : Nat) (l : List Chk) (fl : Int) (h6 : l.length ≤ 6) (hF : FitC l 1048576) (hal : allB l = true) (w : World) (h : CRow w w.heap.size ao l) :
    Calls Try.prog 66 #[.agg #[.slice ao l.length cap, .int .i64 fl]] w (LsEnd (serL l) w) := by
  have hst := @run_store_float Try.prog
  have HB0 := Lib.hid (((Below.refl w.heap.size w).alloc (Nat.le_refl _) (.cells #[.slice ao l.length cap, .int .i64 fl] 29)).alloc (by simp) (.cells #[.int .i64 0, .float .f64 0] 42))
  have HX0 := Lib.hid ((Bt.new w (.slice ao l.length cap) (.int .i64 fl) 29).alloc (.cells #[.int .i64 0, .float .f64 0] 42))
  have HZ0 := Lib.hid (Bt.new (w.alloc (.cells #[.slice ao l.length cap, .int .i64 fl] 29)) (.int .i64 0) (.float .f64 0) 42)
  rw [World.size_alloc] at HZ0
  have HR0 := Lib.hid (GR.after h HB0.out)
  have HA := Lib.hid (fun W hW => allM ao cap l fl h6 hF hal W hW)
  clear h hF hal
  unfold LsEnd
  have hlen := serL_len l
  generalize serL l = x at HA hlen
  go_enter Try.func66, Try.ntmps66
  go_wp2_with fail
  refine (HA.out _ HR0.out).mono ?_
  rintro e w1 ⟨⟨bo, cp, rfl, ho⟩, hb1⟩
  have HB1 := Lib.hid (HB0.out.trans (hb1.mono HB0.out.size))
  obtain ⟨z0, z1, f0, f1⟩ := (HZ0.out.below hb1).cells
  have HS1 := Lib.hid (SRow.of_own ho).2
  clear hb1 ho
  by_cases h0 : 0 < x.length
  case neg =>
    obtain rfl : x = [] := List.eq_nil_of_length_eq_zero (by omega)
    simp only [List.length_nil]
    go_wp2
    exact bodyPost_ret (v := .tuple #[.agg #[.int .i64 0, .float .f64 0], .bool false]) (by simp [results, Try.results66, go_sem, z0, z1]) rfl ⟨rfl, (HB1.out.setCell (by dsimp only; omega) _).setCell (by dsimp only; omega) _⟩
  obtain ⟨m, hm⟩ : ∃ m, m + 1 = x.length := ⟨x.length - 1, by omega⟩
  have HV : Hid (lsV x = (tF x m, vF x m) ∧ lsB x = true) := Lib.hid ⟨by unfold lsV; rw [if_pos h0, show x.length - 1 = m by omega], decide_eq_true h0⟩
  obtain ⟨b, off, hbo, hbl, hcc⟩ := HS1.out.tv h0
  subst hbo
  obtain ⟨c0, c1⟩ := hcc m (by omega)
  have hw1 : (x.length : Int) - 1 = (m : Int) := by omega
  have hm0 : (0 : Int) ≤ (m : Int) := by omega
  have hml : (m : Int) < (x.length : Int) := by omega
  have hml2 : m < x.length := by omega
  have hn0 : ((x.length : Int) == 0) = false := beq_eq_false_iff_ne.2 (by omega)
  have hnn : x ≠ [] := fun e => by rw [e] at h0; simp at h0
  clear hcc hm
  generalize tF x m = tt at c0 HV
  generalize vF x m = vv at c1 HV
  go_wp2
  refine bodyPost_ret (v := .tuple #[.agg #[.int .i64 tt, .float .f64 vv], .bool true]) (by simp [results, Try.results66, go_sem, z0, z1]) rfl ⟨?_, (HB1.out.setCell (by dsimp only; omega) _).setCell (by dsimp only; omega) _⟩
  rw [HV.out.1, HV.out.2]

set_option maxHeartbeats 4000000 in
set_option maxRecDepth 100000 in
theorem loM (ao : Option Addr) (cap : Nat) (l : List Chk) (fl : Int) (hn : l.length ≤ 1048576) (hF : FitC l 1048576) (w : World) (h : CRow w w.heap.size ao l) :
    Calls Try.prog 40 #[.agg #[.slice ao l.length cap, .int .i64 fl]] w (LoEnd (loV l fl) (loB l fl) w) := by
  have hst := @run_store_float Try.prog
  have HB0 := Lib.hid (((Below.refl w.heap.size w).alloc (Nat.le_refl _) (.cells #[.slice ao l.length cap, .int .i64 fl] 29)).alloc (by simp) (.cells #[.int .i64 0, .float .f64 0] 42))
  have HX0 := Lib.hid ((Bt.new w (.slice ao l.length cap) (.int .i64 fl) 29).alloc (.cells #[.int .i64 0, .float .f64 0] 42))
  have HZ0 := Lib.hid (Bt.new (w.alloc (.cells #[.slice ao l.length cap, .int .i64 fl] 29)) (.int .i64 0) (.float .f64 0) 42)
  rw [World.size_alloc] at HZ0
  have HR0 := Lib.hid (GR.after h HB0.out)
  have HC := Lib.hid (fun W hW => goodM ao cap l fl hn hF W hW)
  unfold GsEnd at HC
  unfold LoEnd
  clear h
  by_cases hg : gsB l fl = true
  case neg =>
    have hg : gsB l fl = false := by simpa using hg
    rw [(lo_no hg).1, (lo_no hg).2]
    rw [hg] at HC
    clear hg
    go_enter Try.func40, Try.ntmps40
    go_wp2_with fail
    refine (HC.out _ HR0.out).mono ?_
    rintro e w1 ⟨rfl, hb1⟩
    have HB1 := Lib.hid (HB0.out.trans (hb1.mono HB0.out.size))
    obtain ⟨z0, z1, f0, f1⟩ := (HZ0.out.below hb1).cells
    clear hb1
    go_wp2
    exact bodyPost_ret (v := .tuple #[.agg #[.int .i64 0, .float .f64 0], .bool false]) (by simp [results, Try.results40, go_sem, z0, z1]) rfl ⟨rfl, (HB1.out.setCell (by dsimp only; omega) _).setCell (by dsimp only; omega) _⟩
  rw [(lo_yes hg).1, (lo_yes hg).2]
  have HL := Lib.hid (fun W hW => last66 ao cap l fl (gs_is hg).len hF (gs_is hg).all W hW)
  unfold LsEnd at HL
  rw [hg] at HC
  clear hg hn hF
  generalize lsV (serL l) = v at HL
  generalize lsB (serL l) = b at HL
  obtain ⟨t, u⟩ := v
  simp only at HL ⊢
  go_enter Try.func40, Try.ntmps40
  go_wp2_with fail
  refine (HC.out _ HR0.out).mono ?_
  rintro e w1 ⟨rfl, hb1⟩
  have HB1 := Lib.hid (HB0.out.trans (hb1.mono HB0.out.size))
  have HZ1 := Lib.hid (HZ0.out.below hb1)
  have HR1 := Lib.hid (GR.after HR0.out hb1)
  obtain ⟨x0, x1, _⟩ := (HX0.out.below hb1).cells
  clear hb1
  go_wp2_with fail
  refine (HL.out _ HR1.out).mono ?_
  rintro e w2 ⟨rfl, hb2⟩
  have HB2 := Lib.hid (HB1.out.trans (hb2.mono HB1.out.size))
  obtain ⟨z0, z1, f0, f1⟩ := (HZ1.out.below hb2).cells
  clear hb2 x0 x1
  go_wp2
  exact bodyPost_ret (v := .tuple #[.agg #[.int .i64 t, .float .f64 u], .bool b]) (by simp [results, Try.results40, go_sem, z0, z1]) rfl ⟨rfl, (HB2.out.setCell (by dsimp only; omega) _).setCell (by dsimp only; omega) _⟩

set_option maxHeartbeats 4000000 in
set_option maxRecDepth 100000 in
theorem loI (ao : Option Addr) (cap : Nat) (l : List Chk) (fl : Int) (hn : l.length ≤ 1048576) (hF : FitC l 1048576) (w : World) (h : CRow w w.heap.size ao l) :
    Calls Try.prog 41 #[.agg #[.slice ao l.length cap, .int .i64 fl]] w (LoEnd (loV l fl) (loB l fl) w) := by
  have hst := @run_store_float Try.prog
  have HB0 := Lib.hid (((Below.refl w.heap.size w).alloc (Nat.le_refl _) (.cells #[.slice ao l.length cap, .int .i64 fl] 29)).alloc (by simp) (.cells #[.int .i64 0, .float .f64 0] 42))
  have HX0 := Lib.hid ((Bt.new w (.slice ao l.length cap) (.int .i64 fl) 29).alloc (.cells #[.int .i64 0, .float .f64 0] 42))
  have HZ0 := Lib.hid (Bt.new (w.alloc (.cells #[.slice ao l.length cap, .int .i64 fl] 29)) (.int .i64 0) (.float .f64 0) 42)
  rw [World.size_alloc] at HZ0
  have HR0 := Lib.hid (GR.after h HB0.out)
  have HC := Lib.hid (fun W hW => goodI ao cap l fl hn hF W hW)
  unfold GsEnd at HC
  unfold LoEnd
  clear h
  by_cases hg : gsB l fl = true
  case neg =>
    have hg : gsB l fl = false := by simpa using hg
    rw [(lo_no hg).1, (lo_no hg).2]
    rw [hg] at HC
    clear hg
    go_enter Try.func41, Try.ntmps41
    go_wp2_with fail
    refine (HC.out _ HR0.out).mono ?_
    rintro e w1 ⟨rfl, hb1⟩
    have HB1 := Lib.hid (HB0.out.trans (hb1.mono HB0.out.size))
    obtain ⟨z0, z1, f0, f1⟩ := (HZ0.out.below hb1).cells
    clear hb1
    go_wp2
    exact bodyPost_ret (v := .tuple #[.agg #[.int .i64 0, .float .f64 0], .bool false]) (by simp [results, Try.results41, go_sem, z0, z1]) rfl ⟨rfl, (HB1.out.setCell (by dsimp only; omega) _).setCell (by dsimp only; omega) _⟩
  rw [(lo_yes hg).1, (lo_yes hg).2]
  have HL := Lib.hid (fun W hP hW => lastI w.heap.size ao cap l fl hn hF W hP hW)
  unfold LsEnd at HL
  rw [hg] at HC
  clear hg hn hF
  generalize lsV (serL l) = v at HL
  generalize lsB (serL l) = b at HL
  obtain ⟨t, u⟩ := v
  simp only at HL ⊢
  go_enter Try.func41, Try.ntmps41
  go_wp2_with fail
  refine (HC.out _ HR0.out).mono ?_
  rintro e w1 ⟨rfl, hb1⟩
  have HB1 := Lib.hid (HB0.out.trans (hb1.mono HB0.out.size))
  have HZ1 := Lib.hid (HZ0.out.below hb1)
  have HX1 := Lib.hid (HX0.out.below hb1)
  have HR1 := Lib.hid (GR.after HR0.out hb1)
  clear hb1
  go_wp2_with fail
  refine (HL.out _ HX1.out HR1.out).mono ?_
  rintro e w2 ⟨rfl, hb2⟩
  have HB2 := Lib.hid (HB1.out.trans (hb2.mono HB1.out.size))
  obtain ⟨z0, z1, f0, f1⟩ := (HZ1.out.below hb2).cells
  clear hb2
  go_wp2
  exact bodyPost_ret (v := .tuple #[.agg #[.int .i64 t, .float .f64 u], .bool b]) (by simp [results, Try.results41, go_sem, z0, z1]) rfl ⟨rfl, (HB2.out.setCell (by dsimp only; omega) _).setCell (by dsimp only; omega) _⟩
end Go.Proofs.Yteiefngamccapaa
