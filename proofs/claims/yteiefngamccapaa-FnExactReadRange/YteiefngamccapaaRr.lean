/- Contracts of ReadRange, in the program and in the model, over this seat's translation. -/
import Derived.Test.YteiefngamccapaaGm
import Derived.Test.YteiefngamccapaaRrMath
namespace Go.Proofs.Yteiefngamccapaa
open Go.RowKit Go.Deep

def InEnd (l : List Smp) (a b : Int) (w : World) (e : Ending) (w' : World) : Prop :=
  (∃ (ao : Option Addr) (cp : Nat), e = .returned (.slice ao (inL l a b).length cp) ∧ w'.ownsRow w.heap.size 42 2 (.slice ao (inL l a b).length cp) (inL l a b).length (cellsS (inL l a b))) ∧ Below w.heap.size w w'

set_option maxHeartbeats 4000000 in
set_option maxRecDepth 100000 in
theorem in60 (ao : Option Addr) (cap : Nat) (l : List Smp) (a b : Int) (hn : l.length ≤ 48) (w : World) (h : SRow w w.heap.size ao l) :
    Calls Try.prog 60 #[.slice ao l.length cap, .int .i64 a, .int .i64 b] w (InEnd l a b w) := by
  have H := Lib.hid h
  clear h
  have hst := @run_store_float Try.prog
  obtain ⟨i0, hi, hz0, hz1, hz2⟩ := info_parts Try.info42
  go_enter Try.func60, Try.ntmps60
  go_wp2
  go_loopw [7, 12] (fun v i wr => ∃ k : Nat, k ≤ l.length ∧ i = .int .i64 k ∧ Hid (wr.ownsRow w.heap.size 42 2 v (inL (l.take k) a b).length (cellsS (inL (l.take k) a b))) ∧ Hid (Below w.heap.size w wr)) (fun _ i _ => l.length - (intOf i).toNat)
  case atStart => exact ⟨0, Nat.zero_le _, rfl, Lib.hid (World.ownsRow_nil _ _ _ _), Lib.hid (Below.refl _ _)⟩
  case round =>
    obtain ⟨k, hk, rfl, hO, hB⟩ := hrel
    by_cases hlt : k < l.length
    · obtain ⟨g, off, hao, hbl, hc0, hc1⟩ := (H.out.below hB.out).one hlt
      subst hao
      have HY := Lib.hid (inL_yes (l := l) (a := a) (b := b) hlt)
      have HN := Lib.hid (inL_no (l := l) (a := a) (b := b) hlt)
      have hp := inL_take_len l a b k
      have HI := Lib.hid (fun W => in105 l[k].1 a b W)
      generalize l[k] = x at hc0 hc1 HY HN HI
      obtain ⟨t, v⟩ := x
      simp only at hc0 hc1 HY HN HI
      have HB0 := Lib.hid (hB.out.alloc hB.out.size (.cells #[.int .i64 t, .float .f64 v] 42))
      have HO0 := Lib.hid (hO.out.alloc (.cells #[.int .i64 t, .float .f64 v] 42))
      by_cases ht : a ≤ t ∧ t ≤ b
      · have HS := Lib.hid (HY.out ht.1 ht.2)
        have hd : (decide (a ≤ t) && decide (t ≤ b)) = true := by simp [ht.1, ht.2]
        rw [hd] at HI
        clear hd ht HN HY
        go_wp2_with fail
        refine (HI.out _).mono ?_
        rintro e w1 ⟨rfl, rfl⟩
        go_wp2_with (at_builtin; refine wpList_append_own _ rfl _ _ 50 rfl w.heap.size 42 i0 (.agg #[.int .i64 0, .float .f64 0]) 2 16 Try.underlying50 hi hz0 hz1 hz2 rfl (by decide) _ _ _ rfl (HO0.out.alloc _) ⟨wr.heap.size + 1, 0, none⟩ 1 1 [.int .i64 t, .float .f64 v] rfl rfl ?k1 ?k2 ?k3 ?k4 ?k5 ?_)
        case k1 => have := new_two (w := wr.alloc (.cells #[.int .i64 t, .float .f64 v] 42)) (a := .int .i64 t) (b := .float .f64 v) (t := 42); rw [World.size_alloc] at this; exact this
        case k2 => intro u hu; simp at hu; rcases hu with rfl | rfl <;> rfl
        case k3 => unfold maxLen; omega
        case k4 => omega
        case k5 => have := hB.out.size; simp; omega
        intro v' w2 hown' hgrow _
        have HO2 : Hid (w2.ownsRow w.heap.size 42 2 v' (inL (l.take (k + 1)) a b).length (cellsS (inL (l.take (k + 1)) a b))) := Lib.hid (by rw [HS.out, cellsS_append, List.length_append]; exact hown')
        have HB2 := Lib.hid (own_grown (HB0.out.alloc HB0.out.size _) (HO0.out.alloc _) hgrow (Nat.le_refl _))
        clear hown' hgrow
        go_wp2
        go_roundw
        case rel => exact ⟨k + 1, by omega, by go_num, HO2, HB2⟩
        case measure => simp [intOf]; omega
      · have HS := Lib.hid (HN.out ht)
        have hd : (decide (a ≤ t) && decide (t ≤ b)) = false := by
          by_cases h1 : a ≤ t
          · rw [decide_eq_false (fun h2 => ht ⟨h1, h2⟩)]; simp
          · rw [decide_eq_false h1]; rfl
        rw [hd] at HI
        clear hd ht HN HY
        go_wp2_with fail
        refine (HI.out _).mono ?_
        rintro e w1 ⟨rfl, rfl⟩
        have HO2 : Hid ((wr.alloc (.cells #[.int .i64 t, .float .f64 v] 42)).ownsRow w.heap.size 42 2 u7 (inL (l.take (k + 1)) a b).length (cellsS (inL (l.take (k + 1)) a b))) := Lib.hid (by rw [HS.out]; exact HO0.out)
        go_wp2
        go_roundw
        case rel => exact ⟨k + 1, by omega, by go_num, HO2, HB0⟩
        case measure => simp [intOf]; omega
    · obtain rfl : k = l.length := by omega
      have ho := hO.out
      rw [inL_all] at ho
      obtain ⟨ao', c', hv⟩ := own_slice ho
      subst hv
      have HO := Lib.hid ho
      clear ho
      go_wp2
      go_ret
      exact ⟨⟨ao', c', rfl, HO.out⟩, hB.out⟩

def RrEnd (cs : List Chk) (fl a b : Int) (w : World) (e : Ending) (w' : World) : Prop :=
  (∃ (ao : Option Addr) (cp : Nat), e = .returned (.tuple #[.slice ao (rrL cs fl a b).length cp, .bool (gsB cs fl)]) ∧ w'.ownsRow w.heap.size 42 2 (.slice ao (rrL cs fl a b).length cp) (rrL cs fl a b).length (cellsS (rrL cs fl a b))) ∧ Below w.heap.size w w'

set_option maxHeartbeats 4000000 in
set_option maxRecDepth 100000 in
theorem rrM (ao : Option Addr) (cap : Nat) (l : List Chk) (fl a b : Int) (hn : l.length ≤ 1048576) (hF : FitC l 1048576) (w : World) (h : CRow w w.heap.size ao l) :
    Calls Try.prog 33 #[.agg #[.slice ao l.length cap, .int .i64 fl], .int .i64 a, .int .i64 b] w (RrEnd l fl a b w) := by
  have HB0 := Lib.hid ((Below.refl w.heap.size w).alloc (Nat.le_refl _) (.cells #[.slice ao l.length cap, .int .i64 fl] 29))
  have HX0 := Lib.hid (Bt.new w (.slice ao l.length cap) (.int .i64 fl) 29)
  have HR0 := Lib.hid (GR.after h HB0.out)
  have HF := Lib.hid hF
  have HC := Lib.hid (fun W hW => goodM ao cap l fl hn HF.out W hW)
  clear h hF
  unfold GsEnd at HC
  unfold RrEnd
  by_cases hg : gsB l fl = true
  case neg =>
    have hg : gsB l fl = false := by simpa using hg
    have HN := Lib.hid (rr_no (a := a) (b := b) hg)
    have HG := Lib.hid hg
    rw [hg] at HC
    clear hg
    go_enter Try.func33, Try.ntmps33
    go_wp2_with fail
    refine (HC.out _ HR0.out).mono ?_
    rintro e w1 ⟨rfl, hb1⟩
    have HB1 := Lib.hid (HB0.out.trans (hb1.mono HB0.out.size))
    clear hb1
    go_wp2
    go_ret2
    exact ⟨⟨none, 0, by rw [HN.out, HG.out]; rfl, by rw [HN.out]; exact World.ownsRow_nil _ _ _ _⟩, HB1.out⟩
  have HY := Lib.hid (rr_yes (a := a) (b := b) hg)
  have HG := Lib.hid hg
  have HGs := gs_is hg
  have h6 := HGs.len
  have hlen := serL_len l
  have HA := Lib.hid (fun W hW => allM ao cap l fl h6 HF.out HGs.all W hW)
  have HI := Lib.hid (fun o c W hW => in60 o c (serL l) a b (by omega) W hW)
  rw [hg] at HC
  unfold InEnd at HI
  clear hg HGs hlen
  generalize serL l = x at HY HA HI
  generalize inL x a b = y at HY HI
  go_enter Try.func33, Try.ntmps33
  go_wp2_with fail
  refine (HC.out _ HR0.out).mono ?_
  rintro e w1 ⟨rfl, hb1⟩
  have HB1 := Lib.hid (HB0.out.trans (hb1.mono HB0.out.size))
  have HR1 := Lib.hid (GR.after HR0.out hb1)
  obtain ⟨x0, x1, _⟩ := (HX0.out.below hb1).cells
  clear hb1
  go_wp2_with fail
  refine (HA.out _ HR1.out).mono ?_
  rintro e w2 ⟨⟨bo, cp, rfl, ho⟩, hb2⟩
  have HB2 := Lib.hid (HB1.out.trans (hb2.mono HB1.out.size))
  have HS2 := Lib.hid (SRow.of_own ho).2
  clear hb2 ho
  go_wp2_with fail
  refine (HI.out _ _ _ HS2.out).mono ?_
  rintro e w3 ⟨⟨co, cq, rfl, ho⟩, hb3⟩
  have HB3 := Lib.hid (HB2.out.trans (hb3.mono HB2.out.size))
  have HO3 := Lib.hid (own_lower ho HB2.out.size)
  clear hb3 ho
  go_wp2
  go_ret2
  exact ⟨⟨co, cq, by rw [HY.out, HG.out]; rfl, by rw [HY.out]; exact HO3.out⟩, HB3.out⟩

set_option maxHeartbeats 4000000 in
set_option maxRecDepth 100000 in
theorem rrI (ao : Option Addr) (cap : Nat) (l : List Chk) (fl a b : Int) (hn : l.length ≤ 1048576) (hF : FitC l 1048576) (w : World) (h : CRow w w.heap.size ao l) :
    Calls Try.prog 34 #[.agg #[.slice ao l.length cap, .int .i64 fl], .int .i64 a, .int .i64 b] w (RrEnd l fl a b w) := by
  have HB0 := Lib.hid ((Below.refl w.heap.size w).alloc (Nat.le_refl _) (.cells #[.slice ao l.length cap, .int .i64 fl] 29))
  have HX0 := Lib.hid (Bt.new w (.slice ao l.length cap) (.int .i64 fl) 29)
  have HR0 := Lib.hid (GR.after h HB0.out)
  have HF := Lib.hid hF
  have HC := Lib.hid (fun W hW => goodI ao cap l fl hn HF.out W hW)
  have hst := @run_store_float Try.prog
  obtain ⟨i0, hi, hz0, hz1, hz2⟩ := info_parts Try.info42
  clear h hF
  unfold GsEnd at HC
  unfold RrEnd
  by_cases hg : gsB l fl = true
  case neg =>
    have hg : gsB l fl = false := by simpa using hg
    have HN := Lib.hid (rr_no (a := a) (b := b) hg)
    have HG := Lib.hid hg
    rw [hg] at HC
    clear hg
    go_enter Try.func34, Try.ntmps34
    go_wp2_with fail
    refine (HC.out _ HR0.out).mono ?_
    rintro e w1 ⟨rfl, hb1⟩
    have HB1 := Lib.hid (HB0.out.trans (hb1.mono HB0.out.size))
    clear hb1
    go_wp2
    go_ret2
    exact ⟨⟨none, 0, by rw [HN.out, HG.out]; rfl, by rw [HN.out]; exact World.ownsRow_nil _ _ _ _⟩, HB1.out⟩
  have HY := Lib.hid (rr_yes (a := a) (b := b) hg)
  have HG := Lib.hid hg
  have HGs := gs_is hg
  have h6 := HGs.len
  have hlen := serL_len l
  have HA := Lib.hid (fun W hW => ofAll ao cap l h6 HF.out W hW)
  have h48 : (serL l).length ≤ 48 := by omega
  unfold AllEnd at HA
  rw [serR_yes HGs.all, HGs.all] at HA
  rw [hg] at HC
  clear hg HGs hlen
  generalize serL l = x at HY HA h48
  go_enter Try.func34, Try.ntmps34
  go_wp2_with fail
  refine (HC.out _ HR0.out).mono ?_
  rintro e w1 ⟨rfl, hb1⟩
  have HB1 := Lib.hid (HB0.out.trans (hb1.mono HB0.out.size))
  have HR1 := Lib.hid (GR.after HR0.out hb1)
  obtain ⟨x0, x1, _⟩ := (HX0.out.below hb1).cells
  clear hb1 HB0 HX0 HR0
  go_wp2_with fail
  refine (HA.out _ HR1.out).mono ?_
  rintro e w2 ⟨⟨bo, cp, rfl, ho⟩, hb2⟩
  have HB2 := Lib.hid (HB1.out.trans (hb2.mono HB1.out.size))
  have HS2 := Lib.hid (SRow.of_own ho).2
  clear hb2 ho x0 x1 HB1 HR1 HA HC
  go_wp2
  go_loopw [10, 24] (fun v i wr => ∃ k : Nat, k ≤ x.length ∧ i = .int .i64 k ∧ Hid (wr.ownsRow w2.heap.size 42 2 v (inL (x.take k) a b).length (cellsS (inL (x.take k) a b))) ∧ Hid (Below w2.heap.size w2 wr)) (fun _ i _ => x.length - (intOf i).toNat)
  case atStart => exact ⟨0, Nat.zero_le _, rfl, Lib.hid (World.ownsRow_nil _ _ _ _), Lib.hid (Below.refl _ _)⟩
  case round =>
    obtain ⟨k, hk, rfl, hO, hD⟩ := hrel
    by_cases hlt : k < x.length
    · obtain ⟨g, off, hao, hbl, hc0, hc1⟩ := (HS2.out.below hD.out).one hlt
      subst hao
      have HYs := Lib.hid (inL_yes (l := x) (a := a) (b := b) hlt)
      have HNs := Lib.hid (inL_no (l := x) (a := a) (b := b) hlt)
      have hp := inL_take_len x a b k
      generalize x[k] = z at hc0 hc1 HYs HNs
      obtain ⟨t, v⟩ := z
      simp only at hc0 hc1 HYs HNs
      have HD0 := Lib.hid (hD.out.alloc hD.out.size (.cells #[.int .i64 t, .float .f64 v] 42))
      have HO0 := Lib.hid (hO.out.alloc (.cells #[.int .i64 t, .float .f64 v] 42))
      by_cases ht : a ≤ t ∧ t ≤ b
      · have HS := Lib.hid (HYs.out ht.1 ht.2)
        obtain ⟨ht1, ht2⟩ := ht
        clear HNs HYs
        go_wp2_with (at_builtin; refine wpList_append_own _ rfl _ _ 50 rfl w2.heap.size 42 i0 (.agg #[.int .i64 0, .float .f64 0]) 2 16 Try.underlying50 hi hz0 hz1 hz2 rfl (by decide) _ _ _ rfl (HO0.out.alloc _) ⟨wr.heap.size + 1, 0, none⟩ 1 1 [.int .i64 t, .float .f64 v] rfl rfl ?k1 ?k2 ?k3 ?k4 ?k5 ?_)
        case k1 => have := new_two (w := wr.alloc (.cells #[.int .i64 t, .float .f64 v] 42)) (a := .int .i64 t) (b := .float .f64 v) (t := 42); rw [World.size_alloc] at this; exact this
        case k2 => intro u hu; simp at hu; rcases hu with rfl | rfl <;> rfl
        case k3 => unfold maxLen; omega
        case k4 => omega
        case k5 => have := hD.out.size; simp; omega
        intro v' w3 hown' hgrow _
        have HO2 : Hid (w3.ownsRow w2.heap.size 42 2 v' (inL (x.take (k + 1)) a b).length (cellsS (inL (x.take (k + 1)) a b))) := Lib.hid (by rw [HS.out, cellsS_append, List.length_append]; exact hown')
        have HD3 := Lib.hid (own_grown (HD0.out.alloc HD0.out.size _) (HO0.out.alloc _) hgrow (Nat.le_refl _))
        clear hown' hgrow
        go_wp2
        go_roundw
        case rel => exact ⟨k + 1, by omega, by go_num, HO2, HD3⟩
        case measure => simp [intOf]; omega
      · have HS := Lib.hid (HNs.out ht)
        have HO2 : Hid ((wr.alloc (.cells #[.int .i64 t, .float .f64 v] 42)).ownsRow w2.heap.size 42 2 u10 (inL (x.take (k + 1)) a b).length (cellsS (inL (x.take (k + 1)) a b))) := Lib.hid (by rw [HS.out]; exact HO0.out)
        by_cases ht1 : a ≤ t
        · have ht2 : ¬ t ≤ b := fun h => ht ⟨ht1, h⟩
          clear ht HNs HYs
          go_wp2
          go_roundw
          case rel => exact ⟨k + 1, by omega, by go_num, HO2, HD0⟩
          case measure => simp [intOf]; omega
        · clear ht HNs HYs
          go_wp2
          go_roundw
          case rel => exact ⟨k + 1, by omega, by go_num, HO2, HD0⟩
          case measure => simp [intOf]; omega
    · obtain rfl : k = x.length := by omega
      have ho := hO.out
      rw [inL_all, ← HY.out] at ho
      obtain ⟨ao', c', hv⟩ := own_slice ho
      subst hv
      have HO := Lib.hid (own_lower ho HB2.out.size)
      have HB3 := Lib.hid (HB2.out.trans (hD.out.mono HB2.out.size))
      clear ho
      go_wp2
      go_ret2
      exact ⟨⟨ao', c', by rw [HG.out]; rfl, HO.out⟩, HB3.out⟩
end Go.Proofs.Yteiefngamccapaa
