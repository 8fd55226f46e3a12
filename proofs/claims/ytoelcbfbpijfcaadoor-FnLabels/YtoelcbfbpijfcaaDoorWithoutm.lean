/- Contract of labels without some names in the model, over this seat's translation. -/
import Derived.Test.YtoelcbfbpijfcaaDoorWithout
namespace Go.Proofs.YtoelcbfbpijfcaaDoor
open Go.RowKit Go.Deep Go.WideShapes

theorem hasT_step' {l : List ByteArray} {n : ByteArray} {k : Nat} (hk : k < l.length) : hasT (l.take (k + 1)) n = (hasT (l.take k) n || (l[k].toList == n.toList)) := by
  rw [hasT_step hk, BEq.comm (a := n.toList)]

set_option maxHeartbeats 4000000 in
set_option maxRecDepth 100000 in
theorem without41 (ao bo : Option Addr) (c d : Nat) (l : List Lab) (names : List ByteArray) (hF : Fit l) (hm : names.length ≤ 1048576) (w : World) (h : LRow w w.heap.size ao l) (h2 : TRow w w.heap.size bo names) :
    Calls Tryd.prog 41 #[.slice ao l.length c, .slice bo names.length d] w (Kept l names w) := by
  have H := Lib.hid h
  have H2 := Lib.hid h2
  have hn := hF.1
  clear h h2
  obtain ⟨i0, hi0, hz0, hz1, hz2⟩ := info_parts Tryd.info31
  go_enter Tryd.func41, Tryd.ntmps41
  go_wp2_with fail
  refine (good68 ao c l hF _ H.out).mono ?_
  rintro e w1 ⟨rfl, hb⟩
  have HB := Lib.hid hb
  clear hb
  by_cases hg : goodB l = true
  case neg =>
    have hg : goodB l = false := by simpa using hg
    have HK := Lib.hid (kept_no (l := l) (names := names) (by simp [okW, hg]) HB.out)
    go_wp2
    go_ret2
    exact HK.out
  by_cases h20 : names.length ≤ 20
  case neg =>
    have HK := Lib.hid (kept_no (l := l) (names := names) (by simp [okW, h20]) HB.out)
    have hd : decide (20 < (names.length : Int)) = true := by simp; omega
    go_wp2
    go_ret2
    exact HK.out
  have hd : decide (20 < (names.length : Int)) = false := by simp; omega
  have HOK := Lib.hid (show okW l names = true by simp [okW, hg, h20])
  go_wp2
  clear hg
  go_loopw [6, 22] (fun v i wr => ∃ k : Nat, k ≤ l.length ∧ i = .int .i64 k ∧ Hid (wr.ownsRow w.heap.size 31 2 v (without (l.take k) names).length (cellsOf (without (l.take k) names))) ∧ Hid (Below w.heap.size w wr)) (fun _ i _ => l.length - (intOf i).toNat)
  case atStart => exact ⟨0, Nat.zero_le _, rfl, World.ownsRow_nil _ _ _ _, HB⟩
  case round =>
    obtain ⟨k, hk, rfl, hO, hb⟩ := hrel
    by_cases hlt : k < l.length
    · obtain ⟨b, off, hao, hbl, hc⟩ := H.out (by omega)
      subst hao
      have c0 := (hb.out.cell (p := ⟨b, off + k * 2, none⟩) hbl).trans (hc k hlt).1
      have c1 := (hb.out.cell (p := ⟨b, off + k * 2 + 1, none⟩) hbl).trans (hc k hlt).2
      have HB1 := Lib.hid (hb.out.alloc (hb.out.size) (.cells #[.string l[k].1, .string l[k].2] 31))
      have HO1 := Lib.hid (hO.out.alloc (.cells #[.string l[k].1, .string l[k].2] 31))
      have HKe := Lib.hid (fun h => without_keep (names := names) hlt h)
      have HDr := Lib.hid (fun h => without_drop (names := names) hlt h)
      have hle : (without (l.take k) names).length ≤ 1048576 := Nat.le_trans (without_le _ _) (by simp; omega)
      clear hc
      generalize l[k] = x at c0 c1 HB1 HO1 HKe HDr
      obtain ⟨x1, x2⟩ := x
      go_wp2_with fail
      obtain ⟨k3, k4⟩ := box_cells (wr := wr) (x1 := x1) (x2 := x2) (t := 31) (Below.refl _ _)
      generalize hw2 : wr.alloc (.cells #[.string x1, .string x2] 31) = w2 at HB1 HO1 k3 k4 ⊢
      clear hw2
      go_loop [9, 28] (fun q i => ∃ j : Nat, j ≤ names.length ∧ i = .int .i64 j ∧ q = .bool (hasT (names.take j) x1)) (fun _ i => names.length - (intOf i).toNat)
      case atStart => exact ⟨0, Nat.zero_le _, rfl, rfl⟩
      case round =>
        obtain ⟨j, hj, rfl, rfl⟩ := hrel
        by_cases hlj : j < names.length
        · obtain ⟨b', off', hbo, hbl', hc'⟩ := H2.out (by omega)
          subst hbo
          have d0 := (HB1.out.cell (p := ⟨b', off' + j, none⟩) hbl').trans (hc' j hlj)
          have HS := Lib.hid (hasT_step' (n := x1) hlj)
          clear hc'
          generalize names[j] = y at d0 HS
          by_cases hq : hasT (names.take j) x1 = true
          · have HN : Hid (hasT (names.take (j + 1)) x1 = true) := by rw [HS.out, hq]; rfl
            go_wp2
            go_round
            case rel => exact ⟨j + 1, by omega, by go_num, by rw [HN.out]⟩
            case measure => simp [intOf]; omega
          · have hq : hasT (names.take j) x1 = false := by simpa using hq
            have HN : Hid (hasT (names.take (j + 1)) x1 = (y.toList == x1.toList)) := by rw [HS.out, hq]; rfl
            go_wp2
            go_round
            case rel => exact ⟨j + 1, by omega, by go_num, by rw [HN.out]⟩
            case measure => simp [intOf]; omega
        · obtain rfl : j = names.length := by omega
          rw [List.take_length]
          by_cases hh : hasT names x1 = true
          · have HE := Lib.hid (HDr.out hh)
            go_wp2
            go_roundw
            case rel => exact ⟨k + 1, by omega, by go_num, by rw [HE.out]; exact HO1.out, HB1⟩
            case measure => simp [intOf]; omega
          · have hh : hasT names x1 = false := by simpa using hh
            have HE := Lib.hid (HKe.out hh)
            go_wp2_with (at_builtin; refine wpList_append_own _ rfl (.tmp 42) (.tmp 44) 24 rfl w.heap.size 31 i0 _ 2 32 Tryd.underlying24 hi0 hz0 hz1 hz2 rfl (by decide) _ _ _ rfl (HO1.out.alloc _) ⟨w2.heap.size, 0, none⟩ 1 1 [.string x1, .string x2] rfl rfl new_pair pair_one ?c3 ?c4 ?c5 ?_)
            case c3 => unfold maxLen; omega
            case c4 => omega
            case c5 => have := HB1.out.size; simp; omega
            intro v' w3 hown' hgrow _
            have HR := Lib.hid (kept_append HB1.out HO1.out hown' hgrow)
            clear hown' hgrow
            go_wp2
            go_roundw
            case rel => exact ⟨k + 1, by omega, by go_num, by rw [HE.out]; exact HR.out.1, HR.out.2⟩
            case measure => simp [intOf]; omega
    · obtain rfl : k = l.length := by omega
      have HK := Lib.hid (fun v (h : wr.ownsRow w.heap.size 31 2 v (without l names).length (cellsOf (without l names))) => kept_yes HOK.out h hb.out)
      rw [List.take_length] at hO
      go_wp2
      go_ret2
      exact HK.out _ hO.out
end Go.Proofs.YtoelcbfbpijfcaaDoor
