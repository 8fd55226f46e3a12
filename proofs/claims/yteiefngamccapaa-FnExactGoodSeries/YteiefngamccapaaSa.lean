/- Contract of what tells the samples of all chunks of a series in the model, over this seat's translation. -/
import Derived.Test.YteiefngamccapaaEm
import Derived.Test.YteiefngamccapaaTs
import Derived.Test.YteiefngamccapaaCp
import Derived.Test.YteiefngamccapaaJn
namespace Go.Proofs.Yteiefngamccapaa
open Go.RowKit Go.Deep

set_option maxHeartbeats 4000000 in
set_option maxRecDepth 100000 in
theorem allM (ao : Option Addr) (cap : Nat) (l : List Chk) (fl : Int) (hn : l.length ≤ 6) (hF : FitC l 1048576) (hal : allB l = true) (w : World) (h : CRow w w.heap.size ao l) :
    Calls Try.prog 61 #[.agg #[.slice ao l.length cap, .int .i64 fl]] w fun e w' => (∃ (bo : Option Addr) (cp : Nat), e = .returned (.slice bo (serL l).length cp) ∧ w'.ownsRow w.heap.size 42 2 (.slice bo (serL l).length cp) (serL l).length (cellsS (serL l))) ∧ Below w.heap.size w w' := by
  have HB0 := Lib.hid ((Below.refl w.heap.size w).alloc (Nat.le_refl _) (.cells #[.slice ao l.length cap, .int .i64 fl] 29))
  have H := Lib.hid (h.below ((Below.refl w.heap.size w).alloc (Nat.le_refl _) (.cells #[.slice ao l.length cap, .int .i64 fl] 29)))
  have H0 := Lib.hid h
  have HF := Lib.hid hF
  have HAl := Lib.hid hal
  clear h hF hal
  obtain ⟨i0, hi, hz0, hz1, hz2⟩ := info_parts Try.info42
  go_enter Try.func61, Try.ntmps61
  go_wp2
  go_loopw [3, 11] (fun v i wr => ∃ k : Nat, k ≤ l.length ∧ i = .int .i64 k ∧ Hid (wr.ownsRow w.heap.size 42 2 v (serL (l.take k)).length (cellsS (serL (l.take k)))) ∧ Hid (Below w.heap.size w wr)) (fun _ i _ => l.length - (intOf i).toNat)
  case atStart => exact ⟨0, Nat.zero_le _, rfl, Lib.hid (World.ownsRow_nil _ _ _ _), HB0⟩
  case round =>
    obtain ⟨k, hk, rfl, hO, hB⟩ := hrel
    by_cases hlt : k < l.length
    · obtain ⟨b, off, hao, hbl, hc0, hc1, hc2, hc3⟩ := (H0.out.below hB.out).oneC hlt
      subst hao
      have hsz := HF.out.at hlt
      have HQ := Lib.hid (serL_snoc hlt)
      have HI := Lib.hid (so_is (allB_at HAl.out hlt))
      have hp := serL_take_len (cs := l) k hn
      have hq := (so_fit l[k]).2
      generalize l[k] = x at hc0 hc1 hc2 hc3 hsz HQ HI hq
      obtain ⟨s, x1, x2, x3⟩ := x
      simp only at hc0 hc1 hc2 hc3 hsz
      have HC := Lib.hid (fun W => take82 s x1 x2 x3 hsz W)
      have HB0 := Lib.hid (hB.out.alloc hB.out.size (.cells #[.string s, .int .i64 x1, .int .i64 x2, .int .i64 x3] 85))
      have HO0 := Lib.hid (hO.out.alloc (.cells #[.string s, .int .i64 x1, .int .i64 x2, .int .i64 x3] 85))
      generalize soL (s, x1, x2, x3) = y at HQ HI hq
      go_wp2_with fail
      refine (HC.out _).mono ?_
      rintro e w1 ⟨⟨bo, n, cp, rfl, hn60, hno⟩ | ⟨ys, bo, cp, hF, h60, rfl, ho, hgg⟩, hb1⟩
      · exact absurd HI.out (hno _)
      obtain rfl := hgg _ HI.out
      have HY := Lib.hid (SRow.of_own ho).2.srcA
      have HB1 := Lib.hid (HB0.out.trans (hb1.mono HB0.out.size))
      have HO1 := Lib.hid (own_below HO0.out hb1)
      clear hb1 ho HO0 HB0 hc0 hc1 hc2 hc3 hgg hF
      go_wp2_with (at_builtin; refine wpList_append_any _ rfl _ _ rfl Try.underlying50 hi hz0 hz1 hz2 rfl (by decide) w.heap.size _ _ _ rfl HO1.out _ _ _ _ rfl HY.out cellsS_one ?k3 ?k4 ?k5 ?_)
      case k3 => unfold maxLen; omega
      case k4 => omega
      case k5 => exact HB1.out.size
      intro v' w2 hown' hgrow
      have HO2 : Hid (w2.ownsRow w.heap.size 42 2 v' (serL (l.take (k + 1))).length (cellsS (serL (l.take (k + 1))))) := Lib.hid (by rw [HQ.out, cellsS_append, List.length_append]; exact hown')
      have HB2 := Lib.hid (own_grown HB1.out HO1.out hgrow (Nat.le_refl _))
      clear hown' hgrow HO1 HB1 HY
      go_wp2
      go_roundw
      case rel => exact ⟨k + 1, by omega, by go_num, HO2, HB2⟩
      case measure => simp [intOf]; omega
    · obtain rfl : k = l.length := by omega
      have ho := hO.out
      rw [serL_all] at ho
      obtain ⟨ao', c', hv⟩ := own_slice ho
      subst hv
      have HO := Lib.hid ho
      clear ho
      go_wp2
      go_ret
      exact ⟨⟨ao', c', rfl, HO.out⟩, hB.out⟩
end Go.Proofs.Yteiefngamccapaa
