/- Contracts of what tells the samples of all chunks of a series, in the program and in the model, over this seat's translation. -/
import Derived.Test.YteiefngamccapaaEm
import Derived.Test.YteiefngamccapaaOf
import Derived.Test.YteiefngamccapaaJn
namespace Go.Proofs.Yteiefngamccapaa
open Go.RowKit Go.Deep

/-- What samplesOfAll answers. -/
noncomputable def serR (l : List Chk) : List Smp := if allB l = true then serL l else []
theorem serR_yes {l : List Chk} (h : allB l = true) : serR l = serL l := by unfold serR; rw [if_pos h]
theorem serR_no {l : List Chk} (h : allB l = false) : serR l = [] := by unfold serR; rw [if_neg (by rw [h]; decide)]
def AllEnd (l : List Chk) (w : World) (e : Ending) (w' : World) : Prop :=
  (∃ (ao : Option Addr) (cp : Nat), e = .returned (.tuple #[.slice ao (serR l).length cp, .bool (allB l)]) ∧ w'.ownsRow w.heap.size 42 2 (.slice ao (serR l).length cp) (serR l).length (cellsS (serR l))) ∧ Below w.heap.size w w'

set_option maxHeartbeats 4000000 in
set_option maxRecDepth 100000 in
theorem ofAll (ao : Option Addr) (cap : Nat) (l : List Chk) (hn : l.length ≤ 6) (hF : FitC l 1048576) (w : World) (h : CRow w w.heap.size ao l) :
    Calls Try.prog 50 #[.slice ao l.length cap] w (AllEnd l w) := by
  have H := Lib.hid h
  have HF := Lib.hid hF
  clear h hF
  obtain ⟨i0, hi, hz0, hz1, hz2⟩ := info_parts Try.info42
  go_enter Try.func50, Try.ntmps50
  go_wp2
  go_loopw [4, 11] (fun v i wr => ∃ k : Nat, k ≤ l.length ∧ i = .int .i64 k ∧ Hid (allTo l k) ∧ Hid (wr.ownsRow w.heap.size 42 2 v (serL (l.take k)).length (cellsS (serL (l.take k)))) ∧ Hid (Below w.heap.size w wr)) (fun _ i _ => l.length - (intOf i).toNat)
  case atStart => exact ⟨0, Nat.zero_le _, rfl, Lib.hid (allTo_zero l), Lib.hid (World.ownsRow_nil _ _ _ _), Lib.hid (Below.refl _ _)⟩
  case round =>
    obtain ⟨k, hk, rfl, hA, hO, hB⟩ := hrel
    by_cases hlt : k < l.length
    · obtain ⟨b, off, hao, hbl, hc0, hc1, hc2, hc3⟩ := (H.out.below hB.out).oneC hlt
      subst hao
      have hsz := HF.out.at hlt
      have HQ := Lib.hid (serL_snoc hlt)
      have HS := Lib.hid (fun (h : soB l[k] = true) => allTo_succ hA.out (fun _ : k < l.length => h))
      have HN := Lib.hid (fun (h : soB l[k] = false) => allB_no hlt h)
      have hp := serL_take_len (cs := l) k hn
      have hq := (so_fit l[k]).2
      generalize l[k] = x at hc0 hc1 hc2 hc3 hsz HQ HS HN hq
      obtain ⟨s, x1, x2, x3⟩ := x
      simp only at hc0 hc1 hc2 hc3 hsz
      have HC := Lib.hid (fun W => of27 s x1 x2 x3 hsz W)
      unfold SoEnd at HC
      have HB0 := Lib.hid (hB.out.alloc hB.out.size (.cells #[.string s, .int .i64 x1, .int .i64 x2, .int .i64 x3] 85))
      have HO0 := Lib.hid (hO.out.alloc (.cells #[.string s, .int .i64 x1, .int .i64 x2, .int .i64 x3] 85))
      by_cases hs : soB (s, x1, x2, x3) = true
      case neg =>
        have hs : soB (s, x1, x2, x3) = false := by simpa using hs
        have hal := HN.out hs
        rw [hs] at HC
        generalize soL (s, x1, x2, x3) = y at HC
        clear hs
        go_wp2_with fail
        refine (HC.out _).mono ?_
        rintro e w1 ⟨⟨bo, cp, rfl, _⟩, hb1⟩
        have HB1 := Lib.hid (HB0.out.trans (hb1.mono HB0.out.size))
        clear hb1
        go_wp2
        go_ret2
        refine ⟨⟨none, 0, ?_, ?_⟩, HB1.out⟩
        · rw [serR_no hal, hal]; rfl
        · rw [serR_no hal]; exact World.ownsRow_nil _ _ _ _
      have HS2 := Lib.hid (HS.out hs)
      rw [hs] at HC
      generalize soL (s, x1, x2, x3) = y at HC HQ hq
      go_wp2_with fail
      refine (HC.out _).mono ?_
      rintro e w1 ⟨⟨bo, cp, rfl, ho⟩, hb1⟩
      have HY := Lib.hid (SRow.of_own ho).2.srcA
      have HB1 := Lib.hid (HB0.out.trans (hb1.mono HB0.out.size))
      have HO1 := Lib.hid (own_below HO0.out hb1)
      clear hb1 ho HO0 HB0 hc0 hc1 hc2 hc3
      go_wp2_with (at_builtin; refine wpList_append_any _ rfl _ _ rfl Try.underlying50 hi hz0 hz1 hz2 rfl (by decide) w.heap.size _ _ _ rfl HO1.out _ _ _ _ rfl HY.out cellsS_one ?k3 ?k4 ?k5 ?_)
      case k3 => unfold maxLen; omega
      case k4 => omega
      case k5 => exact HB1.out.size
      intro v' w2 hown' hgrow
      have HO2 : Hid (w2.ownsRow w.heap.size 42 2 v' (serL (l.take (k + 1))).length (cellsS (serL (l.take (k + 1))))) := Lib.hid (by rw [HQ.out, cellsS_append, List.length_append]; exact hown')
      have HB2 := Lib.hid (own_grown HB1.out HO1.out hgrow (Nat.le_refl _))
      clear hown' hgrow HO1 HB1 HY
      go_wp2
      go_roundw
      case rel => exact ⟨k + 1, by omega, by go_num, HS2, HO2, HB2⟩
      case measure => simp [intOf]; omega
    · obtain rfl : k = l.length := by omega
      have hal := Lib.hid (allB_yes hA.out)
      have ho := hO.out
      rw [serL_all] at ho
      have HS := Lib.hid (serR_yes hal.out)
      obtain ⟨ao', c', hv⟩ := own_slice ho
      subst hv
      have HO := Lib.hid ho
      clear ho
      go_wp2
      go_ret2
      refine ⟨⟨ao', c', ?_, ?_⟩, hB.out⟩
      · rw [HS.out, hal.out] <;> rfl
      · rw [HS.out]; exact HO.out
end Go.Proofs.Yteiefngamccapaa
