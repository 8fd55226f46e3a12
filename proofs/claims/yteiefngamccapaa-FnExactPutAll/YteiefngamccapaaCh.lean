/- Contracts of CutHead, in the model and in the program, over this seat's translation. -/
import Derived.Test.YteiefngamccapaaCg
import Derived.Test.YteiefngamccapaaGm
import Derived.Test.YteiefngamccapaaChMath2
import Derived.Deep.QuietTactic
import Derived.BigQuiet
import Derived.Deep.RegionLaw
namespace Go.Proofs.Yteiefngamccapaa
open Go.RowKit Go.Deep

theorem set2_below {B g : Nat} {w w' : World} {a b : Value} (h : Below B w w') (hg : B ≤ g) : Below B w ((w'.setCell ⟨g, 0, none⟩ a).setCell ⟨g, 1, none⟩ b) := (h.setCell hg _).setCell hg _

set_option maxHeartbeats 8000000 in
set_option maxRecDepth 100000 in
theorem chM (ao : Option Addr) (cap : Nat) (l : List Chk) (fl : Int) (hn : l.length ≤ 1048576) (hF : FitC l 1048576) (w : World) (h : CRow w w.heap.size ao l) :
    Calls Try.prog 38 #[.agg #[.slice ao l.length cap, .int .i64 fl]] w (SeEnd (chL l fl) (flF l fl) (gsB l fl) w) := by
  have HB0 := Lib.hid (((Below.refl w.heap.size w).alloc (Nat.le_refl _) (.cells #[.slice ao l.length cap, .int .i64 fl] 29)).alloc (by simp) (.cells #[.slice none 0 0, .int .i64 0] 29))
  have HX0 := Lib.hid ((Bt.new w (.slice ao l.length cap) (.int .i64 fl) 29).alloc (.cells #[.slice none 0 0, .int .i64 0] 29))
  have HZ0 := Lib.hid (Bt.new (w.alloc (.cells #[.slice ao l.length cap, .int .i64 fl] 29)) (.slice none 0 0) (.int .i64 0) 29)
  rw [World.size_alloc] at HZ0
  have HR0 := Lib.hid (GR.after h HB0.out)
  have HC := Lib.hid (fun W hW => goodM ao cap l fl hn hF W hW)
  have HOw := Lib.hid (fun W hW => own59 ao cap l fl hn W hW)
  unfold GsEnd at HC
  clear h hF
  by_cases hg : gsB l fl = true
  case neg =>
    have hg : gsB l fl = false := by simpa using hg
    rw [hg] at HC
    rw [chL_no hg, flF_no hg, hg]
    clear hg
    go_enter Try.func38, Try.ntmps38
    go_wp2_with fail
    refine (HC.out _ HR0.out).mono ?_
    rintro e w1 ⟨rfl, hb1⟩
    have HB1 := Lib.hid (HB0.out.trans (hb1.mono HB0.out.size))
    obtain ⟨z0, z1, f0, f1⟩ := (HZ0.out.below hb1).cells
    clear hb1
    go_wp2
    exact bodyPost_ret (v := .tuple #[.agg #[.slice none 0 0, .int .i64 0], .bool false]) (by simp [results, Try.results38, go_sem, z0, z1]) rfl (se_none (set2_below HB1.out (by omega)))
  have h6 := (gs_is hg).len
  have HSm := Lib.hid (chL_same hg)
  have HMo := Lib.hid (chL_more hg)
  rw [hg] at HC
  rw [flF_yes hg, hg]
  clear hg hn
  obtain ⟨i0, hi, hz0, hz1, hz2⟩ := info_parts Try.infoC
  go_enter Try.func38, Try.ntmps38
  go_wp2_with fail
  refine (HC.out _ HR0.out).mono ?_
  rintro e w1 ⟨rfl, hb1⟩
  have HB1 := Lib.hid (HB0.out.trans (hb1.mono HB0.out.size))
  have HX1 := Lib.hid (HX0.out.below hb1)
  have HZ1 := Lib.hid (HZ0.out.below hb1)
  have HR1 := Lib.hid (GR.after HR0.out hb1)
  have hzl : w.heap.size + 1 < w1.heap.size := HZ1.out.lt
  obtain ⟨x0, x1, _⟩ := HX1.out.cells
  clear hb1 HB0 HX0 HZ0 HR0
  go_wp2_with fail
  refine (HOw.out _ HR1.out).mono ?_
  rintro e w2 h2
  obtain ⟨o2, k2, rfl, hO2, hR2, hb2⟩ := made_ser h2
  have HV2 := Lib.hid (fun k (hk : (Value.slice o2 l.length k2).ownBlock = some k) => hO2.lt k hk)
  have HO2 := Lib.hid (hO2.alloc (.cells #[.slice o2 l.length k2, .int .i64 fl] 29))
  have hW2 := (Below.refl w2.heap.size w2).alloc (Nat.le_refl _) (.cells #[.slice o2 l.length k2, .int .i64 fl] 29)
  have HB2 := Lib.hid ((HB1.out.trans (hb2.mono HB1.out.size)).trans (hW2.mono (Nat.le_trans HB1.out.size hb2.size)))
  have HZ2 := Lib.hid ((HZ1.out.below hb2).below hW2)
  have HR2 := Lib.hid (GR.after hR2 hW2)
  have HP2 := Lib.hid (Bt.new w2 (.slice o2 l.length k2) (.int .i64 fl) 29)
  have h12 := hb2.size
  clear hb2 h2 hO2 hR2 hW2 HB1 HX1 HZ1 HR1
  obtain ⟨z0, z1, zf0, zf1⟩ := HZ2.out.cells
  have hne : w2.heap.size ≠ w.heap.size + 1 := by omega
  have HEnd : Hid (∀ W', Below w.heap.size w W' → W'.ownsRow w1.heap.size 85 4 (.slice o2 l.length k2) l.length (cellsG cC l) → chL l fl = l → SeEnd (chL l fl) fl true w (.returned (.tuple #[.agg #[.slice o2 l.length k2, .int .i64 fl], .bool true])) W') := Lib.hid (fun W' hb ho he => by
    rw [he]; exact se_some (own_lower ho (by omega)) hb)
  by_cases hpos : 0 < l.length
  case neg =>
    have HL := Lib.hid (HSm.out (fun h => hpos h.1))
    obtain rfl : l = [] := List.eq_nil_of_length_eq_zero (by omega)
    simp only [List.length_nil] at HO2 HB2 HEnd hpos h6 x0 z0 z1 zf0 zf1 ⊢
    go_wp2
    exact bodyPost_ret (v := .tuple #[.agg #[.slice o2 0 k2, .int .i64 fl], .bool true]) (by simp [results, Try.results38, go_sem, z0, z1]) rfl (HEnd.out _ (set2_below HB2.out (by omega)) (own_set (own_set HO2.out (by omega)) (by omega)) HL.out)
  have hp1 : (0 : Int) < (l.length : Int) := by omega
  have hnn : l ≠ [] := fun e => by rw [e] at hpos; simp at hpos
  by_cases hlt6 : l.length < 6
  case neg =>
    have HL := Lib.hid (HSm.out (fun h => hlt6 h.2.1))
    have hlt7 : ¬ (l.length : Int) < 6 := by omega
    go_wp2
    exact bodyPost_ret (v := .tuple #[.agg #[.slice o2 l.length k2, .int .i64 fl], .bool true]) (by simp [results, Try.results38, go_sem, z0, z1]) rfl (HEnd.out _ (set2_below HB2.out (by omega)) (own_set (own_set HO2.out (by omega)) (by omega)) HL.out)
  have hp6 : (l.length : Int) < 6 := by omega
  obtain ⟨m, hm⟩ : ∃ m, m + 1 = l.length := ⟨l.length - 1, by omega⟩
  obtain ⟨b, off, hao, hbl, hc0, hc1, hc2, hc3⟩ := HR2.out.oneC (show m < l.length by omega)
  rw [mF_at (show m < l.length by omega)] at hc1
  have HSm := Lib.hid (fun h : ¬ 0 < mF l m => HSm.out (fun h2 => h (by have := h2.2.2; rwa [show l.length - 1 = m by omega] at this)))
  have HMo := Lib.hid (fun h : 0 < mF l m => HMo.out hpos hlt6 (by rwa [show l.length - 1 = m by omega]))
  subst hao
  clear hc0 hc2 hc3
  generalize mF l m = x at hc1 HSm HMo
  have hw1 : (l.length : Int) - 1 = (m : Int) := by omega
  have hm0 : (0 : Int) ≤ (m : Int) := by omega
  have hml : (m : Int) < (l.length : Int) := by omega
  have hml2 : m < l.length := by omega
  have HM := Lib.hid hm
  clear hm
  by_cases hx : 0 < x
  case neg =>
    have HL := Lib.hid (HSm.out hx)
    go_wp2
    exact bodyPost_ret (v := .tuple #[.agg #[.slice (some ⟨b, off, none⟩) l.length k2, .int .i64 fl], .bool true]) (by simp [results, Try.results38, go_sem, z0, z1]) rfl (HEnd.out _ (set2_below HB2.out (by omega)) (own_set (own_set HO2.out (by omega)) (by omega)) HL.out)
  have HL := Lib.hid (HMo.out hx)
  go_wp2_with (at_builtin; refine wpList_append_more _ rfl _ _ rfl Try.underlying27 hi hz0 hz1 hz2 rfl (by decide) w1.heap.size _ _ _ rfl (HO2.out.alloc _) (some ⟨w2.heap.size + 1, 0, none⟩) 1 1 (cC zeroC) rfl ?k2 (cC_ones _) ?k3 ?k4 ?k5 ?_)
  case k2 => have h := src_four (w2.alloc (.cells #[.slice (some ⟨b, off, none⟩) l.length k2, .int .i64 fl] 29)) (.string ⟨#[]⟩) (.int .i64 0) (.int .i64 0) (.int .i64 0) 85; rw [World.size_alloc] at h; exact h
  case k3 => unfold maxLen; omega
  case k4 => omega
  case k5 => simp; omega
  intro v' w3 hown' hgrow hv'
  obtain ⟨o', c', hvs⟩ := own_slice hown'
  subst hvs
  have HO3 : Hid (w3.ownsRow w1.heap.size 85 4 (.slice o' (l.length + 1) c') (l ++ [zeroC]).length (cellsG cC (l ++ [zeroC]))) := Lib.hid (by rw [cellsG_snoc, List.length_append]; exact hown')
  have HVn : Hid ((Value.slice o' (l.length + 1) c').ownBlock ≠ some w2.heap.size) := Lib.hid (fun e => by
    rcases hv' with h | h
    · rw [e] at h; have := (HV2.out _ h.symm).2; omega
    · rw [e] at h; injection h with h; (try simp at h); omega)
  have HB3 := Lib.hid (own_grown (HB2.out.alloc HB2.out.size _) (HO2.out.alloc (.cells #[.string ⟨#[]⟩, .int .i64 0, .int .i64 0, .int .i64 0] 85)) hgrow (by omega))
  have HP3 := Lib.hid ((HP2.out.alloc (.cells #[.string ⟨#[]⟩, .int .i64 0, .int .i64 0, .int .i64 0] 85)).apart hgrow (fun e => Nat.lt_irrefl _ (HV2.out _ e).2))
  have HZ3 := Lib.hid ((HZ2.out.alloc (.cells #[.string ⟨#[]⟩, .int .i64 0, .int .i64 0, .int .i64 0] 85)).apart hgrow (fun e => by have := (HV2.out _ e).1; omega))
  clear hown' hgrow hv' z0 z1 zf0 zf1 hc1
  obtain ⟨p0, p1, pf0, pf1⟩ := HP3.out.cells
  obtain ⟨z0, z1, zf0, zf1⟩ := HZ3.out.cells
  have hne' : w.heap.size + 1 ≠ w2.heap.size := by omega
  go_wp2
  refine bodyPost_ret (v := .tuple #[.agg #[.slice o' (l.length + 1) c', .int .i64 fl], .bool true]) (by simp [results, Try.results38, go_sem, z0, z1]) rfl ?_
  rw [HL.out]
  exact se_some (own_lower (own_set (own_set (own_put HO3.out HVn.out) (by omega)) (by omega)) (by omega)) (set2_below (HB3.out.setCell (by dsimp only; omega) _) (by omega))

/-- The last chunk's place. -/
theorem last_none (p c : Nat) (fl : Int) (w : World) (h : Bt w p (.slice none 0 c) (.int .i64 fl)) :
    Calls Try.prog 64 #[.pointer (some ⟨p, 0, none⟩)] w fun e w' => e = .returned (.pointer none) ∧ w' = w := by
  obtain ⟨x0, x1, _⟩ := h.cells
  go_enter Try.func64, Try.ntmps64
  go_wp2
  go_ret
  exact ⟨rfl, rfl⟩
theorem last_zero (p : Nat) (o : Option Addr) (c : Nat) (fl : Int) (w : World) (h : Bt w p (.slice o 0 c) (.int .i64 fl)) :
    Calls Try.prog 64 #[.pointer (some ⟨p, 0, none⟩)] w fun e w' => e = .returned (.pointer none) ∧ ∃ q, w' = w.drewN q := by
  obtain ⟨x0, x1, _⟩ := h.cells
  go_enter Try.func64, Try.ntmps64
  go_wp2
  go_ret
  exact ⟨rfl, 0, rfl⟩
set_option maxHeartbeats 4000000 in
set_option maxRecDepth 100000 in
theorem last_some (p b off c n m : Nat) (fl : Int) (hm : m + 1 = n) (hn : n ≤ 1048576) (w : World) (h : Bt w p (.slice (some ⟨b, off, none⟩) n c) (.int .i64 fl)) :
    Calls Try.prog 64 #[.pointer (some ⟨p, 0, none⟩)] w fun e w' => e = .returned (.pointer (some ⟨b, off + m * 4, none⟩)) ∧ ∃ q, w' = w.drewN q := by
  obtain ⟨x0, x1, _⟩ := h.cells
  have hw1 : IntKind.i64.wrap ((n : Int) - 1) = (m : Int) := by rw [show (n : Int) - 1 = (m : Int) by omega]; exact IntWalk.i64_in _ (by omega)
  have hw2 : (n : Int) - 1 = (m : Int) := by omega
  have hm0 : (0 : Int) ≤ (m : Int) := by omega
  have hml : (m : Int) < (n : Int) := by omega
  have hml2 : m < n := by omega
  have hn0 : ((n : Int) == 0) = false := beq_eq_false_iff_ne.2 (by omega)
  clear hm
  go_enter Try.func64, Try.ntmps64
  go_wp2_with fail
  go_quiet (fail)
  go_wp2
  go_ret
  exact ⟨rfl, _, rfl⟩

theorem Bt.drewN {w : World} {g : Nat} {a b : Value} (h : Bt w g a b) (q : Nat) : Bt (w.drewN q) g a b := by
  induction q with
  | zero => exact h
  | succ q ih => exact ih
theorem own_drewN {w : World} {base : Nat} {e : TypeId} {s n : Nat} {v : Value} {xs : List Value} (h : w.ownsRow base e s v n xs) (q : Nat) : (w.drewN q).ownsRow base e s v n xs := by
  induction q with
  | zero => exact h
  | succ q ih => exact ih

set_option maxHeartbeats 8000000 in
set_option maxRecDepth 100000 in
theorem chI (ao : Option Addr) (cap : Nat) (l : List Chk) (fl : Int) (hn : l.length ≤ 1048576) (hF : FitC l 1048576) (w : World) (h : CRow w w.heap.size ao l) :
    Calls Try.prog 39 #[.agg #[.slice ao l.length cap, .int .i64 fl]] w (SeEnd (chL l fl) (flF l fl) (gsB l fl) w) := by
  have HB0 := Lib.hid (((Below.refl w.heap.size w).alloc (Nat.le_refl _) (.cells #[.slice ao l.length cap, .int .i64 fl] 29)).alloc (by simp) (.cells #[.slice none 0 0, .int .i64 0] 29))
  have HZ0 := Lib.hid (Bt.new (w.alloc (.cells #[.slice ao l.length cap, .int .i64 fl] 29)) (.slice none 0 0) (.int .i64 0) 29)
  rw [World.size_alloc] at HZ0
  have HR0 := Lib.hid (GR.after h HB0.out)
  clear h
  by_cases hg : gsB l fl = true
  case neg =>
    have hg : gsB l fl = false := by simpa using hg
    have HC := Lib.hid (fun W hW => copy_no ao cap l fl hn hF hg W hW)
    rw [chL_no hg, flF_no hg, hg]
    clear hg hF
    go_enter Try.func39, Try.ntmps39
    go_wp2_with fail
    refine (HC.out _ HR0.out).mono ?_
    rintro e w1 ⟨rfl, hb1⟩
    have HB1 := Lib.hid (HB0.out.trans (hb1.mono HB0.out.size))
    obtain ⟨z0, z1, f0, f1⟩ := (HZ0.out.below hb1).cells
    clear hb1
    go_wp2
    exact bodyPost_ret (v := .tuple #[.agg #[.slice none 0 0, .int .i64 0], .bool false]) (by simp [results, Try.results39, go_sem, z0, z1]) rfl (se_none (set2_below HB1.out (by omega)))
  have h6 := (gs_is hg).len
  have HSm := Lib.hid (chL_same hg)
  have HMo := Lib.hid (chL_more hg)
  have HC := Lib.hid (fun W hW => copy_yes ao cap l fl hn hF hg W hW)
  rw [flF_yes hg, hg]
  clear hg hF hn
  obtain ⟨i0, hi, hz0, hz1, hz2⟩ := info_parts Try.infoC
  go_enter Try.func39, Try.ntmps39
  go_wp2_with fail
  refine (HC.out _ HR0.out).mono ?_
  rintro e w1 ⟨p, v, rfl, hP, hO, hpl, hvp, hb1⟩
  obtain ⟨o, c, rfl⟩ := own_slice hO
  simp only [World.size_alloc] at hO hpl
  have HP1 := Lib.hid hP
  have HO1 := Lib.hid hO
  have HVp := Lib.hid hvp
  have HB1 := Lib.hid (HB0.out.trans (hb1.mono HB0.out.size))
  have HZ1 := Lib.hid (HZ0.out.below hb1)
  have hpw : p < w1.heap.size := hP.lt
  have HEnd : Hid (∀ W', Below w.heap.size w W' → W'.ownsRow (w.heap.size + 1 + 1) 85 4 (.slice o l.length c) l.length (cellsG cC l) → chL l fl = l → SeEnd (chL l fl) fl true w (.returned (.tuple #[.agg #[.slice o l.length c, .int .i64 fl], .bool true])) W') := Lib.hid (fun W' hb ho he => by
    rw [he]; exact se_some (own_lower ho (by omega)) hb)
  clear hP hO hvp hb1 HB0 HZ0 HR0
  by_cases hpos : 0 < l.length
  case neg =>
    have HL := Lib.hid (HSm.out (fun h => hpos h.1))
    obtain rfl : l = [] := List.eq_nil_of_length_eq_zero (by omega)
    simp only [List.length_nil] at HP1 HO1 HEnd hpos h6
    go_wp2_with fail
    refine (last_zero p o c fl _ HP1.out).mono ?_
    rintro e w2 ⟨rfl, q, rfl⟩
    obtain ⟨p0, p1, _⟩ := (HP1.out.drewN q).cells
    obtain ⟨z0, z1, zf0, zf1⟩ := (HZ1.out.drewN q).cells
    have HO2 := Lib.hid (own_drewN HO1.out q)
    have HB2 := Lib.hid (below_drewN HB1.out q)
    go_wp2
    exact bodyPost_ret (v := .tuple #[.agg #[.slice o 0 c, .int .i64 fl], .bool true]) (by simp [results, Try.results39, go_sem, z0, z1]) rfl (HEnd.out _ (set2_below HB2.out (by omega)) (own_set (own_set HO2.out (by omega)) (by omega)) HL.out)
  obtain ⟨m, hm⟩ : ∃ m, m + 1 = l.length := ⟨l.length - 1, by omega⟩
  obtain ⟨b, off, hao, hbl, hc0, hc1, hc2, hc3⟩ := (GR.of_own cC_len HO1.out).oneC (show m < l.length by omega)
  rw [mF_at (show m < l.length by omega)] at hc1
  subst hao
  clear hc0 hc2 hc3
  have HSm := Lib.hid (fun h : ¬ (l.length < 6 ∧ 0 < mF l m) => HSm.out (fun h2 => h ⟨h2.2.1, by have := h2.2.2; rwa [show l.length - 1 = m by omega] at this⟩))
  have HMo := Lib.hid (fun (h6 : l.length < 6) (h : 0 < mF l m) => HMo.out hpos h6 (by rwa [show l.length - 1 = m by omega]))
  generalize mF l m = x at hc1 HSm HMo
  have HLc := Lib.hid (fun W hW => last_some p b off c l.length m fl hm (by omega) W hW)
  go_wp2_with fail
  refine (HLc.out _ HP1.out).mono ?_
  rintro e w2 ⟨rfl, q, rfl⟩
  have HP2 := Lib.hid (HP1.out.drewN q)
  have HZ2 := Lib.hid (HZ1.out.drewN q)
  have HO2 := Lib.hid (own_drewN HO1.out q)
  have HB2 := Lib.hid (below_drewN HB1.out q)
  have hd1 : (w1.drewN q).cell? ⟨b, off + m * 4 + 1, none⟩ = some (.int .i64 x) := hc1
  have hpw2 : p < (w1.drewN q).heap.size := HP2.out.lt
  clear hc1 hpw HP1 HZ1 HO1 HB1 hbl
  generalize w1.drewN q = w2 at HP2 HZ2 HO2 HB2 hd1 hpw2
  obtain ⟨p0, p1, pf0, pf1⟩ := HP2.out.cells
  obtain ⟨z0, z1, zf0, zf1⟩ := HZ2.out.cells
  have hne : p ≠ w.heap.size + 1 := by omega
  have hne' : w.heap.size + 1 ≠ p := by omega
  by_cases hx : 0 < x
  case neg =>
    have HL := Lib.hid (HSm.out (fun h => hx h.2))
    clear hm
    go_wp2
    exact bodyPost_ret (v := .tuple #[.agg #[.slice (some ⟨b, off, none⟩) l.length c, .int .i64 fl], .bool true]) (by simp [results, Try.results39, go_sem, z0, z1]) rfl (HEnd.out _ (set2_below HB2.out (by omega)) (own_set (own_set HO2.out (by omega)) (by omega)) HL.out)
  by_cases hlt6 : l.length < 6
  case neg =>
    have HL := Lib.hid (HSm.out (fun h => hlt6 h.1))
    have hlt7 : ¬ (l.length : Int) < 6 := by omega
    clear hm
    go_wp2
    exact bodyPost_ret (v := .tuple #[.agg #[.slice (some ⟨b, off, none⟩) l.length c, .int .i64 fl], .bool true]) (by simp [results, Try.results39, go_sem, z0, z1]) rfl (HEnd.out _ (set2_below HB2.out (by omega)) (own_set (own_set HO2.out (by omega)) (by omega)) HL.out)
  have hp6 : (l.length : Int) < 6 := by omega
  have HL := Lib.hid (HMo.out hlt6 hx)
  have HSz := HB2.out.size
  have hb0 := (Below.refl w2.heap.size w2).drew
  clear hm
  go_wp2_with fail
  go_region_law (first
    | (refine step_append_any _ rfl _ _ rfl Try.underlying27 hi hz0 hz1 hz2 rfl (by decide) (w.heap.size + 1 + 1) _ _ _ rfl ((own_below HO2.out hba).alloc _) (some ⟨wa.heap.size, 0, none⟩) 1 1 (cC zeroC) rfl (src_four _ _ _ _ _ _) (cC_ones _) (by unfold maxLen; omega) (by omega) (by simp; omega) ?_; intro v' w3 hown' hgrow hv'; obtain ⟨o', c', rfl⟩ := own_slice hown'; have HP3 := Lib.hid (((HP2.out.below hba).alloc (.cells #[zS, zI, zI, zI] 85)).apart hgrow HVp.out); obtain ⟨q0, q1, qf0, qf1⟩ := HP3.out.cells)
    | (go_simp; go_at_call 65; refine (new30 _).mono ?_; rintro e wa ⟨rfl, hba'⟩; have hba := hb0.trans hba'; clear hba'; have hsa := hba.size; obtain ⟨u0, u1, _⟩ := (HP2.out.below hba).cells; obtain ⟨u2, u3, _⟩ := ((HP2.out.below hba).alloc (.cells #[zS, zI, zI, zI] 85)).cells))
  all_goals
    have HO3 : Hid (w3.ownsRow (w.heap.size + 1 + 1) 85 4 (.slice o' (l.length + 1) c') (l ++ [zeroC]).length (cellsG cC (l ++ [zeroC]))) := Lib.hid (by rw [cellsG_snoc, List.length_append]; exact hown')
    have HVn : Hid ((Value.slice o' (l.length + 1) c').ownBlock ≠ some p) := Lib.hid (fun e => by
      rcases hv' with h | h
      · rw [e] at h; exact HVp.out h.symm
      · rw [e] at h; injection h with h; (try simp at h); omega)
    have HBa := Lib.hid ((HB2.out.trans (hba.mono HB2.out.size)).alloc (Nat.le_trans HB2.out.size hba.size) (.cells #[zS, zI, zI, zI] 85))
    have HB3 := Lib.hid (own_grown HBa.out ((own_below HO2.out hba).alloc _) hgrow (by omega))
    have HZ3 := Lib.hid (((HZ2.out.below hba).alloc (.cells #[zS, zI, zI, zI] 85)).apart hgrow (fun e => by have := (HO2.out.lt _ e).1; omega))
    clear hown' hgrow hv' p0 p1 pf0 pf1 z0 z1 zf0 zf1 hd1 u0 u1 u2 u3 hba hb0
    obtain ⟨z0, z1, zf0, zf1⟩ := HZ3.out.cells
    go_wp2_with fail
    refine bodyPost_ret (v := .tuple #[.agg #[.slice o' (l.length + 1) c', .int .i64 fl], .bool true]) (by simp [results, Try.results39, go_sem, z0, z1]) rfl ?_
    rw [HL.out]
    exact se_some (own_lower (own_set (own_set (own_put HO3.out HVn.out) (by omega)) (by omega)) (by omega)) (set2_below (HB3.out.setCell (by dsimp only; omega) _) (by omega))
end Go.Proofs.Yteiefngamccapaa
