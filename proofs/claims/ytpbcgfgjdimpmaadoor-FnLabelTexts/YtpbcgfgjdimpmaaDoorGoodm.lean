/- Contract of good labels in the model, over this seat's translation: goodB. -/
import Derived.Test.YtpbcgfgjdimpmaaDoorGood
namespace Go.Proofs.YtpbcgfgjdimpmaaDoor
open Go.RowKit Go.Deep

set_option maxHeartbeats 4000000 in
set_option maxRecDepth 100000 in
theorem good68 (ao : Option Addr) (cap : Nat) (l : List Lab) (hF : Fit l) (w : World) (h : LRow w w.heap.size ao l) :
    Calls Tryd.prog 65 #[.slice ao l.length cap] w fun e w' => e = .returned (.bool (goodB l)) ∧ Below w.heap.size w w' := by
  have H := Lib.hid h
  clear h
  have hn := hF.1
  go_enter Tryd.func65, Tryd.ntmps65
  go_wp2
  go_loopw [7] (fun i wr => ∃ k : Nat, k ≤ l.length ∧ i = .int .i64 k ∧ Hid (goodTo l k) ∧ Hid (Below w.heap.size w wr)) (fun i _ => l.length - (intOf i).toNat)
  case atStart => exact ⟨0, Nat.zero_le _, rfl, goodTo_zero l, Below.refl _ _⟩
  case round =>
    obtain ⟨k, hk, rfl, hG, hb⟩ := hrel
    by_cases hlt : k < l.length
    · obtain ⟨b, off, hao, hbl, hc⟩ := H.out (by omega)
      subst hao
      have c0 := (hb.out.cell (p := ⟨b, off + k * 2, none⟩) hbl).trans (hc k hlt).1
      have c1 := (hb.out.cell (p := ⟨b, off + k * 2 + 1, none⟩) hbl).trans (hc k hlt).2
      have hne : b ≠ wr.heap.size := by have := hb.out.size; omega
      have HB1 := Lib.hid (hb.out.alloc (hb.out.size) (.cells #[.string l[k].1, .string l[k].2] 82))
      have HC := Lib.hid hc
      have HL := Lib.hid (labB_iff l[k])
      have HNo := Lib.hid (fun (h : nameB l[k].1 = false ∨ wordB l[k].2 = false ∨ l[k].2.size = 0) => goodB_lab hlt (labB_no h))
      have hz := hF.at hlt
      obtain ⟨x1, hx1⟩ : ∃ x, x = l[k].1 := ⟨_, rfl⟩
      obtain ⟨x2, hx2⟩ : ∃ x, x = l[k].2 := ⟨_, rfl⟩
      rw [← hx1] at c0 HL HB1 HNo hz
      rw [← hx2] at c1 HL HB1 HNo hz
      have HX1 := Lib.hid hx1
      have HX2 := Lib.hid hx2
      clear hc hx1 hx2
      go_wp2_with fail
      obtain ⟨k3, k4⟩ := box_cells (wr := wr) (x1 := x1) (x2 := x2) (t := 82) (Below.refl _ _)
      generalize wr.alloc (.cells #[.string x1, .string x2] 82) = w2 at HB1 k3 k4 ⊢
      by_cases hN : nameB x1 = true
      case neg =>
        have hN : nameB x1 = false := by simpa using hN
        have HF := Lib.hid (HNo.out (.inl hN))
        go_quiet ((go_at_call 104; exact Calls.quiet_of_same ((name73 _ (by omega) _).mono fun _ _ h => ⟨h.1, h.2.symm⟩)))
        go_wp2
        go_ret
        exact ⟨ret_bool HF.out.symm, below_drewN HB1.out _⟩
      by_cases hz2 : 0 < x2.size
      case neg =>
        have HF := Lib.hid (HNo.out (.inr (.inr (by omega))))
        have he := empty_of (s := x2) (by omega)
        go_quiet ((go_at_call 104; exact Calls.quiet_of_same ((name73 _ (by omega) _).mono fun _ _ h => ⟨h.1, h.2.symm⟩)))
        go_wp2
        go_ret
        exact ⟨ret_bool HF.out.symm, below_drewN HB1.out _⟩
      have he := nonempty_of hz2
      by_cases hWd : wordB x2 = true
      case neg =>
        have hWd : wordB x2 = false := by simpa using hWd
        have HF := Lib.hid (HNo.out (.inr (.inl hWd)))
        go_quiet ((first | (go_at_call 104; exact Calls.quiet_of_same ((name73 _ (by omega) _).mono fun _ _ h => ⟨h.1, h.2.symm⟩)) | (go_at_call 91; exact Calls.quiet_of_same ((word91 _ (by omega) _).mono fun _ _ h => ⟨h.1, h.2.symm⟩))))
        go_wp2
        go_ret
        exact ⟨ret_bool HF.out.symm, below_drewN HB1.out _⟩
      have HLb := Lib.hid (HL.out.2 ⟨hN, hWd, hz2⟩)
      rcases k with _ | j
      · have HGo := Lib.hid (goodTo_succ hG.out hlt HLb.out (fun j _ e => by omega))
        go_quiet ((first | (go_at_call 104; exact Calls.quiet_of_same ((name73 _ (by omega) _).mono fun _ _ h => ⟨h.1, h.2.symm⟩)) | (go_at_call 91; exact Calls.quiet_of_same ((word91 _ (by omega) _).mono fun _ _ h => ⟨h.1, h.2.symm⟩))))
        go_wp2
        go_roundw
        case rel => exact ⟨1, by omega, by go_num, HGo, below_drewN HB1.out _⟩
        case measure => simp [intOf]; omega
      · have p0 := (HB1.out.cell (p := ⟨b, off + j * 2, none⟩) hbl).trans (HC.out j (by omega)).1
        have HGo := Lib.hid (fun (h : less l[j].1 l[j + 1].1 = true) => goodTo_succ hG.out hlt HLb.out (fun i hi e => by obtain rfl : i = j := (by omega); exact h))
        have HBa := Lib.hid (fun (h : less l[j].1 l[j + 1].1 = false) => goodB_less hlt h)
        rw [← HX1.out] at HGo HBa
        obtain ⟨y, hy⟩ : ∃ y, y = l[j].1 := ⟨_, rfl⟩
        rw [← hy] at p0 HGo HBa
        have hwr : IntKind.i64.wrap ((j : Int) + 1 - 1) = j := by rw [show (j : Int) + 1 - 1 = j by omega]; exact IntWalk.i64_in _ (by omega)
        clear hy
        by_cases hls : less y x1 = true
        · have HGo2 := Lib.hid (HGo.out hls)
          have hls' : Op.bytesLess y.toList x1.toList = true := hls
          clear hls
          go_quiet ((first | (go_at_call 104; exact Calls.quiet_of_same ((name73 _ (by omega) _).mono fun _ _ h => ⟨h.1, h.2.symm⟩)) | (go_at_call 91; exact Calls.quiet_of_same ((word91 _ (by omega) _).mono fun _ _ h => ⟨h.1, h.2.symm⟩))))
          go_wp2
          go_roundw
          case rel => exact ⟨j + 2, by omega, by go_num, HGo2, below_drewN HB1.out _⟩
          case measure => simp [intOf]; omega
        · have hls : less y x1 = false := by simpa using hls
          have HBa2 := Lib.hid (HBa.out hls)
          have hls' : Op.bytesLess y.toList x1.toList = false := hls
          clear hls
          go_quiet ((first | (go_at_call 104; exact Calls.quiet_of_same ((name73 _ (by omega) _).mono fun _ _ h => ⟨h.1, h.2.symm⟩)) | (go_at_call 91; exact Calls.quiet_of_same ((word91 _ (by omega) _).mono fun _ _ h => ⟨h.1, h.2.symm⟩))))
          go_wp2
          go_ret
          exact ⟨ret_bool HBa2.out.symm, below_drewN HB1.out _⟩
    · obtain rfl : k = l.length := by omega
      have HF := Lib.hid (goodB_of hG.out)
      go_wp2
      go_ret
      exact ⟨ret_bool (by rw [HF.out, Bool.eq_iff_iff]; simp; omega), hb.out⟩
end Go.Proofs.YtpbcgfgjdimpmaaDoor
