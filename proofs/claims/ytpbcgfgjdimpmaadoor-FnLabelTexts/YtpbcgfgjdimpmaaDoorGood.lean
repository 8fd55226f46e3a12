/- Contracts of good labels in the program and in the model, over this seat's translation: both sides answer goodB. -/
import Derived.Test.YtpbcgfgjdimpmaaDoorWordm
import Derived.Test.YtpbcgfgjdimpmaaDoorRow
import Derived.StillTailTactics
namespace Go.Proofs.YtpbcgfgjdimpmaaDoor
open Go.RowKit Go.Deep

/-- A new block of two texts, read behind what was made later. -/
theorem box_cells {wr w1 : World} {x1 x2 : ByteArray} {t : TypeId} (h : Below (wr.alloc (.cells #[.string x1, .string x2] t)).heap.size (wr.alloc (.cells #[.string x1, .string x2] t)) w1) :
    w1.cell? ⟨wr.heap.size, 0, none⟩ = some (.string x1) ∧ w1.cell? ⟨wr.heap.size, 1, none⟩ = some (.string x2) := by
  constructor
  · rw [h.cell (p := ⟨wr.heap.size, 0, none⟩) (by simp)]; simp
  · rw [h.cell (p := ⟨wr.heap.size, 1, none⟩) (by simp)]; simp

set_option maxHeartbeats 2000000 in
set_option maxRecDepth 100000 in
theorem good19 (ao : Option Addr) (cap : Nat) (l : List Lab) (hn : l.length ≤ 1048576) (w : World) (hT : Tabs w) (h : LRow w w.heap.size ao l) :
    Calls Tryd.prog 30 #[.slice ao l.length cap] w fun e w' => e = .returned (.bool (goodB l)) ∧ Below w.heap.size w w' := by
  have H := Lib.hid h
  clear h
  by_cases h6 : 6 < l.length
  · have HG := Lib.hid (goodB_long h6)
    go_enter Tryd.func30, Tryd.ntmps30
    go_wp2
    go_ret
    exact ⟨ret_bool HG.out.symm, Below.refl _ _⟩
  have hd : decide (6 < (l.length : Int)) = false := by simp; omega
  go_enter Tryd.func30, Tryd.ntmps30
  go_wp2
  go_loopw [10] (fun i wr => ∃ k : Nat, k ≤ l.length ∧ i = .int .i64 k ∧ Hid (goodTo l k) ∧ Hid (Below w.heap.size w wr)) (fun i _ => l.length - (intOf i).toNat)
  case atStart => exact ⟨0, Nat.zero_le _, rfl, goodTo_zero l, Below.refl _ _⟩
  case round =>
    obtain ⟨k, hk, rfl, hG, hb⟩ := hrel
    by_cases hlt : k < l.length
    · obtain ⟨b, off, hao, hbl, hc⟩ := H.out (by omega)
      subst hao
      have c0 := (hb.out.cell (p := ⟨b, off + k * 2, none⟩) hbl).trans (hc k hlt).1
      have c1 := (hb.out.cell (p := ⟨b, off + k * 2 + 1, none⟩) hbl).trans (hc k hlt).2
      have hne : b ≠ wr.heap.size := by have := hb.out.size; omega
      have HB1 := Lib.hid (hb.out.alloc (hb.out.size) (.cells #[.string l[k].1, .string l[k].2] 82))
      have HC := Lib.hid hc
      have HL := Lib.hid (labB_iff l[k])
      have HNo := Lib.hid (fun (h : nameB l[k].1 = false ∨ wordB l[k].2 = false ∨ l[k].2.size = 0) => goodB_lab hlt (labB_no h))
      obtain ⟨x1, hx1⟩ : ∃ x, x = l[k].1 := ⟨_, rfl⟩
      obtain ⟨x2, hx2⟩ : ∃ x, x = l[k].2 := ⟨_, rfl⟩
      rw [← hx1] at c0 HL HB1 HNo
      rw [← hx2] at c1 HL HB1 HNo
      have HX1 := Lib.hid hx1
      have HX2 := Lib.hid hx2
      clear hc hx1 hx2
      go_wp2_with fail
      refine (name26 x1 _ (hT.one.below' HB1.out)).mono ?_
      rintro e w1 ⟨rfl, hb1⟩
      have HW1 := Lib.hid (HB1.out.trans (hb1.mono (HB1.out.size)))
      obtain ⟨k1, k2⟩ := box_cells hb1
      have HV1 := Lib.hid hb1
      clear hb1
      by_cases hN : nameB x1 = true
      case neg =>
        have hN : nameB x1 = false := by simpa using hN
        have HF := Lib.hid (HNo.out (.inl hN))
        go_wp2
        go_ret
        exact ⟨ret_bool HF.out.symm, HW1.out⟩
      go_wp2_with fail
      refine (word63 x2 _ (hT.below' HW1.out)).mono ?_
      rintro e w2 ⟨rfl, hb2⟩
      have HW2 := Lib.hid (HW1.out.trans (hb2.mono (HW1.out.size)))
      obtain ⟨k3, k4⟩ := box_cells (HV1.out.trans (hb2.mono HV1.out.size))
      clear hb2 k1 k2
      by_cases hWd : wordB x2 = true
      case neg =>
        have hWd : wordB x2 = false := by simpa using hWd
        have HF := Lib.hid (HNo.out (.inr (.inl hWd)))
        go_wp2
        go_ret
        exact ⟨ret_bool HF.out.symm, HW2.out⟩
      by_cases hz : 0 < x2.size
      case neg =>
        have HF := Lib.hid (HNo.out (.inr (.inr (by omega))))
        have he := empty_of (s := x2) (by omega)
        go_wp2
        go_ret
        exact ⟨ret_bool HF.out.symm, HW2.out⟩
      have he := nonempty_of hz
      have HLb := Lib.hid (HL.out.2 ⟨hN, hWd, hz⟩)
      rcases k with _ | j
      · have HGo := Lib.hid (goodTo_succ hG.out hlt HLb.out (fun j _ e => by omega))
        go_wp2_with fail
        go_quiet (fail)
        go_wp2
        go_roundw
        case rel => exact ⟨1, by omega, by go_num, HGo, below_drewN HW2.out _⟩
        case measure => simp [intOf]; omega
      · have p0 := (HW2.out.cell (p := ⟨b, off + j * 2, none⟩) hbl).trans (HC.out j (by omega)).1
        have HGo := Lib.hid (fun (h : less l[j].1 l[j + 1].1 = true) => goodTo_succ hG.out hlt HLb.out (fun i hi e => by obtain rfl : i = j := (by omega); exact h))
        have HBa := Lib.hid (fun (h : less l[j].1 l[j + 1].1 = false) => goodB_less hlt h)
        rw [← HX1.out] at HGo HBa
        obtain ⟨y, hy⟩ : ∃ y, y = l[j].1 := ⟨_, rfl⟩
        rw [← hy] at p0 HGo HBa
        have hwr : IntKind.i64.wrap ((j : Int) + 1 - 1) = j := by rw [show (j : Int) + 1 - 1 = j by omega]; exact IntWalk.i64_in _ (by omega)
        clear hy
        by_cases hls : less y x1 = true
        · have HGo2 := Lib.hid (HGo.out hls)
          have hls' : Op.bytesLess y.toList x1.toList = true := hls
          clear hls
          go_wp2_with fail
          go_quiet (fail)
          go_wp2
          go_roundw
          case rel => exact ⟨j + 2, by omega, by go_num, HGo2, below_drewN HW2.out _⟩
          case measure => simp [intOf]; omega
        · have hls : less y x1 = false := by simpa using hls
          have HBa2 := Lib.hid (HBa.out hls)
          have hls' : Op.bytesLess y.toList x1.toList = false := hls
          clear hls
          go_wp2_with fail
          go_quiet (fail)
          go_wp2
          go_ret
          exact ⟨ret_bool HBa2.out.symm, below_drewN HW2.out _⟩
    · obtain rfl : k = l.length := by omega
      have HF := Lib.hid (goodB_of hG.out)
      go_wp2
      go_ret
      exact ⟨ret_bool (by rw [HF.out]; simp; omega), hb.out⟩
end Go.Proofs.YtpbcgfgjdimpmaaDoor
