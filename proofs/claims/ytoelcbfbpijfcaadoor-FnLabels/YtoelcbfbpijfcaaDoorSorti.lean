/- Contracts of what the program's sorting of labels is made of, over this seat's translation: faults of each label, a name twice, those with an Is. -/
import Derived.Test.YtoelcbfbpijfcaaDoorSortMath
import Derived.Test.YtoelcbfbpijfcaaDoorWithout
namespace Go.Proofs.YtoelcbfbpijfcaaDoor
open Go.RowKit Go.Deep

set_option maxHeartbeats 2000000 in
set_option maxRecDepth 100000 in
theorem part56 (ao : Option Addr) (cap : Nat) (l : List Lab) (hn : l.length ≤ 1048576) (w : World) (hT : Tabs w) (h : LRow w w.heap.size ao l) :
    Calls Tryd.prog 56 #[.slice ao l.length cap] w fun e w' => e = .returned (.int .i64 (partC l)) ∧ Below w.heap.size w w' := by
  have H := Lib.hid h
  clear h
  by_cases h12 : 12 < l.length
  · have HP := Lib.hid (partC_long h12)
    go_enter Tryd.func56, Tryd.ntmps56
    go_wp2
    go_ret
    exact ⟨ret_int (by rw [HP.out]; rfl), Below.refl _ _⟩
  have hd : decide (12 < (l.length : Int)) = false := by simp; omega
  go_enter Tryd.func56, Tryd.ntmps56
  go_wp2
  go_loopw [12] (fun i wr => ∃ k : Nat, k ≤ l.length ∧ i = .int .i64 k ∧ Hid (allTo (fun x => nameB x.1) l k) ∧ Hid (Below w.heap.size w wr)) (fun i _ => l.length - (intOf i).toNat)
  case atStart => exact ⟨0, Nat.zero_le _, rfl, allTo_zero _ _, Below.refl _ _⟩
  case round =>
    obtain ⟨k, hk, rfl, hG, hb⟩ := hrel
    by_cases hlt : k < l.length
    · obtain ⟨b, off, hao, hbl, hc⟩ := H.out (by omega)
      subst hao
      have c0 := (hb.out.cell (p := ⟨b, off + k * 2, none⟩) hbl).trans (hc k hlt).1
      have c1 := (hb.out.cell (p := ⟨b, off + k * 2 + 1, none⟩) hbl).trans (hc k hlt).2
      have HB1 := Lib.hid (hb.out.alloc (hb.out.size) (.cells #[.string l[k].1, .string l[k].2] 31))
      have HS := Lib.hid (fun (h : nameB l[k].1 = true) => allTo_succ hG.out hlt h)
      have HN := Lib.hid (fun (h : nameB l[k].1 = false) => partC_name h12 (all_not (p := fun x => nameB x.1) hlt h))
      clear hc
      generalize l[k] = x at c0 c1 HB1 HS HN
      obtain ⟨x1, x2⟩ := x
      dsimp only at HS HN c0 c1
      go_wp2_with fail
      refine (name26 x1 _ (hT.one.below' HB1.out)).mono ?_
      rintro e w1 ⟨rfl, hb1⟩
      have HW1 := Lib.hid (HB1.out.trans (hb1.mono (HB1.out.size)))
      clear hb1
      by_cases hq : nameB x1 = true
      · have HE := Lib.hid (HS.out hq)
        go_wp2
        go_roundw
        case rel => exact ⟨k + 1, by omega, by go_num, HE, HW1⟩
        case measure => simp [intOf]; omega
      · have hq : nameB x1 = false := by simpa using hq
        have HE := Lib.hid (HN.out hq)
        go_wp2
        go_ret
        exact ⟨ret_int (by rw [HE.out]; rfl), HW1.out⟩
    · obtain rfl : k = l.length := by omega
      have HA := Lib.hid (allTo_all hG.out)
      go_wp2
      go_loopw [23] (fun i w2 => ∃ k : Nat, k ≤ l.length ∧ i = .int .i64 k ∧ Hid (allTo (fun x => wordB x.2) l k) ∧ Hid (Below w.heap.size w w2)) (fun i _ => l.length - (intOf i).toNat)
      case atStart => exact ⟨0, Nat.zero_le _, rfl, allTo_zero _ _, hb⟩
      case round =>
        clear hb
        obtain ⟨k, hk, rfl, hG2, hb⟩ := hrel
        rename_i w2 _
        by_cases hlt : k < l.length
        · obtain ⟨b, off, hao, hbl, hc⟩ := H.out (by omega)
          subst hao
          have c0 := (hb.out.cell (p := ⟨b, off + k * 2, none⟩) hbl).trans (hc k hlt).1
          have c1 := (hb.out.cell (p := ⟨b, off + k * 2 + 1, none⟩) hbl).trans (hc k hlt).2
          have HB1 := Lib.hid (hb.out.alloc (hb.out.size) (.cells #[.string l[k].1, .string l[k].2] 31))
          have HS := Lib.hid (fun (h : wordB l[k].2 = true) => allTo_succ hG2.out hlt h)
          have HN := Lib.hid (fun (h : wordB l[k].2 = false) => partC_word h12 HA.out (all_not (p := fun x => wordB x.2) hlt h))
          clear hc
          generalize l[k] = x at c0 c1 HB1 HS HN
          obtain ⟨x1, x2⟩ := x
          dsimp only at HS HN c0 c1
          go_wp2_with fail
          refine (word63 x2 _ (hT.below' HB1.out)).mono ?_
          rintro e w3 ⟨rfl, hb1⟩
          have HW1 := Lib.hid (HB1.out.trans (hb1.mono (HB1.out.size)))
          clear hb1
          by_cases hq : wordB x2 = true
          · have HE := Lib.hid (HS.out hq)
            go_wp2
            go_roundw
            case rel => exact ⟨k + 1, by omega, by go_num, HE, HW1⟩
            case measure => simp [intOf]; omega
          · have hq : wordB x2 = false := by simpa using hq
            have HE := Lib.hid (HN.out hq)
            go_wp2
            go_ret
            exact ⟨ret_int (by rw [HE.out]; rfl), HW1.out⟩
        · obtain rfl : k = l.length := by omega
          have HE := Lib.hid (partC_ok h12 HA.out (allTo_all hG2.out))
          go_wp2
          go_ret
          exact ⟨ret_int (by rw [HE.out]; rfl), hb.out⟩
end Go.Proofs.YtoelcbfbpijfcaaDoor
