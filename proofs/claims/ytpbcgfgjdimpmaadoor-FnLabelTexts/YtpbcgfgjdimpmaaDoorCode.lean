/- Contract of the fault of labels in the model, over this seat's translation: codeB. -/
import Derived.Test.YtpbcgfgjdimpmaaDoorSortj
import Derived.Test.YtpbcgfgjdimpmaaDoorWordm
namespace Go.Proofs.YtpbcgfgjdimpmaaDoor
open Go.RowKit Go.Deep

def ndTo (l : List Lab) (k : Nat) : Prop := ∀ i j (hi : i < l.length) (hj : j < l.length), i < j → j < k → l[i].1.data.toList ≠ l[j].1.data.toList
theorem ndTo_succ {l : List Lab} {k : Nat} (h : ndTo l k) (hk : k < l.length) (h2 : ∀ i (hi : i < l.length), i < k → l[i].1.data.toList ≠ l[k].1.data.toList) : ndTo l (k + 1) := fun i j hi hj hij hjk => by
  by_cases e : j = k
  · subst e; exact h2 i hi hij
  · exact h i j hi hj hij (by omega)
theorem ndTo_nodup {l : List Lab} (h : ndTo l l.length) : (names l).Nodup := by
  unfold names
  rw [List.Nodup, List.pairwise_map, List.pairwise_iff_getElem]
  exact fun i j hi hj hij => h i j hi hj hij hj
theorem same_not_nodup {l : List Lab} {i k : Nat} (hi : i < l.length) (hk : k < l.length) (hik : i < k) (he : l[i].1.data.toList = l[k].1.data.toList) : ¬ (names l).Nodup := by
  intro hn
  unfold names at hn
  rw [List.Nodup, List.pairwise_map, List.pairwise_iff_getElem] at hn
  exact hn i k hi hk hik he
def apartTo (l : List Lab) (x : ByteArray) (j : Nat) : Prop := ∀ i (hi : i < l.length), i < j → l[i].1.data.toList ≠ x.data.toList
theorem apartTo_succ {l : List Lab} {x : ByteArray} {j : Nat} (h : apartTo l x j) (hj : j < l.length) (h2 : l[j].1.data.toList ≠ x.data.toList) : apartTo l x (j + 1) := fun i hi hij => by
  by_cases e : i = j
  · subst e; exact h2
  · exact h i hi (by omega)

set_option maxHeartbeats 4000000 in
set_option maxRecDepth 100000 in
theorem code62 (ao : Option Addr) (cap : Nat) (l : List Lab) (hF : Fit l) (hcap : l.length ≤ cap) (_hcm : cap ≤ maxLen) (w : World) (h : LRow w w.heap.size ao l) :
    Calls Tryd.prog 134 #[.slice ao l.length cap] w fun e w' => e = .returned (.int .i64 (codeB l)) ∧ Below w.heap.size w w' := by
  have H := Lib.hid h
  have hn := hF.1
  unfold maxLen at _hcm
  clear h
  by_cases h12 : 12 < l.length
  · have HP := Lib.hid ((codeB_part (by rw [partC_long h12]; decide)).trans (partC_long h12))
    go_enter Tryd.func134, Tryd.ntmps134
    go_wp2
    go_ret
    exact ⟨ret_int (by rw [HP.out]; rfl), Below.refl _ _⟩
  have hd : decide (12 < (l.length : Int)) = false := by simp; omega
  go_enter Tryd.func134, Tryd.ntmps134
  go_wp2
  go_loopw [17] (fun i wr => ∃ k : Nat, k ≤ l.length ∧ i = .int .i64 k ∧ Hid (allTo (fun x => nameB x.1) l k) ∧ Hid (Below w.heap.size w wr)) (fun i _ => l.length - (intOf i).toNat)
  case atStart => exact ⟨0, Nat.zero_le _, rfl, allTo_zero _ _, Below.refl _ _⟩
  case round =>
    obtain ⟨k, hk, rfl, hG, hb⟩ := hrel
    by_cases hlt : k < l.length
    · obtain ⟨b, off, hao, hbl, hc⟩ := H.out (by omega)
      subst hao
      have c0 := (hb.out.cell (p := ⟨b, off + k * 2, none⟩) hbl).trans (hc k hlt).1
      have c1 := (hb.out.cell (p := ⟨b, off + k * 2 + 1, none⟩) hbl).trans (hc k hlt).2
      have HB1 := Lib.hid (hb.out.alloc (hb.out.size) (.cells #[.string l[k].1, .string l[k].2] 82))
      have HS := Lib.hid (fun (h : nameB l[k].1 = true) => allTo_succ hG.out hlt h)
      have HN := Lib.hid (fun (h : nameB l[k].1 = false) => partC_name h12 (all_not (p := fun x => nameB x.1) hlt h))
      have hz := hF.at hlt
      clear hc
      generalize l[k] = x at c0 c1 HB1 HS HN hz
      obtain ⟨x1, x2⟩ := x
      dsimp only at HS HN c0 c1 hz
      go_wp2_with fail
      refine (name73 x1 (by omega) _).mono ?_
      rintro e w1 ⟨rfl, rfl⟩
      by_cases hq : nameB x1 = true
      · have HE := Lib.hid (HS.out hq)
        go_wp2
        go_roundw
        case rel => exact ⟨k + 1, by omega, by go_num, HE, HB1⟩
        case measure => simp [intOf]; omega
      · have hq : nameB x1 = false := by simpa using hq
        have HE := Lib.hid (HN.out hq)
        have HC := Lib.hid (codeB_part (l := l) (by rw [HE.out]; decide))
        go_wp2
        go_ret
        exact ⟨ret_int (by rw [HC.out, HE.out]; rfl), HB1.out⟩
    · obtain rfl : k = l.length := by omega
      have HA := Lib.hid (allTo_all hG.out)
      go_wp2
      go_loopw [28] (fun i w2 => ∃ k : Nat, k ≤ l.length ∧ i = .int .i64 k ∧ Hid (allTo (fun x => wordB x.2) l k) ∧ Hid (Below w.heap.size w w2)) (fun i _ => l.length - (intOf i).toNat)
      case atStart => exact ⟨0, Nat.zero_le _, rfl, allTo_zero _ _, hb⟩
      case round =>
        clear hb
        obtain ⟨k, hk, rfl, hG2, hb⟩ := hrel
        by_cases hlt : k < l.length
        · obtain ⟨b, off, hao, hbl, hc⟩ := H.out (by omega)
          subst hao
          have c0 := (hb.out.cell (p := ⟨b, off + k * 2, none⟩) hbl).trans (hc k hlt).1
          have c1 := (hb.out.cell (p := ⟨b, off + k * 2 + 1, none⟩) hbl).trans (hc k hlt).2
          have HB1 := Lib.hid (hb.out.alloc (hb.out.size) (.cells #[.string l[k].1, .string l[k].2] 82))
          have HS := Lib.hid (fun (h : wordB l[k].2 = true) => allTo_succ hG2.out hlt h)
          have HN := Lib.hid (fun (h : wordB l[k].2 = false) => partC_word h12 HA.out (all_not (p := fun x => wordB x.2) hlt h))
          have hz := hF.at hlt
          clear hc
          generalize l[k] = x at c0 c1 HB1 HS HN hz
          obtain ⟨x1, x2⟩ := x
          dsimp only at HS HN c0 c1 hz
          go_wp2_with fail
          refine (word91 x2 (by omega) _).mono ?_
          rintro e w3 ⟨rfl, rfl⟩
          by_cases hq : wordB x2 = true
          · have HE := Lib.hid (HS.out hq)
            go_wp2
            go_roundw
            case rel => exact ⟨k + 1, by omega, by go_num, HE, HB1⟩
            case measure => simp [intOf]; omega
          · have hq : wordB x2 = false := by simpa using hq
            have HE := Lib.hid (HN.out hq)
            have HC := Lib.hid (codeB_part (l := l) (by rw [HE.out]; decide))
            go_wp2
            go_ret
            exact ⟨ret_int (by rw [HC.out, HE.out]; rfl), HB1.out⟩
        · obtain rfl : k = l.length := by omega
          have HP := Lib.hid (partC_ok h12 HA.out (allTo_all hG2.out))
          go_wp2
          go_loopw [7, 39] (fun q i w3 => ∃ k : Nat, k ≤ l.length ∧ i = .int .i64 k ∧ q = .int .i64 (((l.take k).filter hasIs).length : Nat) ∧ Hid (ndTo l k) ∧ Hid (Below w.heap.size w w3)) (fun _ i _ => l.length - (intOf i).toNat)
          case atStart => exact ⟨0, Nat.zero_le _, rfl, rfl, fun _ _ _ _ _ h => absurd h (by omega), hb⟩
          case round =>
            clear hb
            obtain ⟨k, hk, rfl, rfl, hND, hb⟩ := hrel
            have hle : ((l.take k).filter hasIs).length ≤ k := Nat.le_trans (List.length_filter_le _ _) (by simp; omega)
            by_cases hlt : k < l.length
            · obtain ⟨b, off, hao, hbl, hc⟩ := H.out (by omega)
              subst hao
              have c0 := (hb.out.cell (p := ⟨b, off + k * 2, none⟩) hbl).trans (hc k hlt).1
              have c1 := (hb.out.cell (p := ⟨b, off + k * 2 + 1, none⟩) hbl).trans (hc k hlt).2
              have HC := Lib.hid hc
              have HB1 := Lib.hid (hb.out.alloc (hb.out.size) (.cells #[.string l[k].1, .string l[k].2] 82))
              have HKe := Lib.hid (fun h => filter_keep hlt h)
              have HDr := Lib.hid (fun h => filter_drop hlt h)
              have HSu := Lib.hid (fun (h : apartTo l l[k].1 k) => ndTo_succ hND.out hlt h)
              have HTw := Lib.hid (fun i (hi : i < l.length) (hik : i < k) (he : l[i].1.data.toList = l[k].1.data.toList) => codeB_twice HP.out (same_not_nodup hi hlt hik he))
              clear hc
              generalize l[k] = x at c0 c1 HB1 HKe HDr HSu HTw
              obtain ⟨x1, x2⟩ := x
              dsimp only at c0 c1 HSu HTw
              go_wp2_with fail
              obtain ⟨k3, k4⟩ := box_cells (wr := wr) (x1 := x1) (x2 := x2) (t := 82) (Below.refl _ _)
              have hB5 : wr.heap.size < (wr.alloc (.cells #[.string x1, .string x2] 82)).heap.size := by simp
              generalize wr.alloc (.cells #[.string x1, .string x2] 82) = w5 at HB1 k3 k4 hB5 ⊢
              generalize wr.heap.size = B at k3 k4 hB5 ⊢
              go_loopw [48] (fun i w4 => ∃ j : Nat, j ≤ k ∧ i = .int .i64 j ∧ Hid (apartTo l x1 j) ∧ w4.cell? ⟨B, 0, none⟩ = some (.string x1) ∧ w4.cell? ⟨B, 1, none⟩ = some (.string x2) ∧ Hid (Below w.heap.size w w4) ∧ B < w4.heap.size) (fun i _ => k - (intOf i).toNat)
              case atStart => exact ⟨0, Nat.zero_le _, rfl, fun _ _ h => absurd h (by omega), k3, k4, HB1, hB5⟩
              case round =>
                clear k3 k4 hB5 HB1
                obtain ⟨j, hj, rfl, hAp, k3, k4, hb4, hB5⟩ := hrel
                by_cases hjk : j < k
                · have d0 := (hb4.out.cell (p := ⟨b, off + j * 2, none⟩) hbl).trans (HC.out j (by omega)).1
                  have d1 := (hb4.out.cell (p := ⟨b, off + j * 2 + 1, none⟩) hbl).trans (HC.out j (by omega)).2
                  have HB6 := Lib.hid (hb4.out.alloc (hb4.out.size) (.cells #[.string l[j].1, .string l[j].2] 82))
                  have HAs := Lib.hid (fun (h : l[j].1.data.toList ≠ x1.data.toList) => apartTo_succ hAp.out (by omega) h)
                  have HT2 := Lib.hid (HTw.out j (by omega) hjk)
                  have m3 : ∀ o, (wr.alloc o).cell? ⟨B, 0, none⟩ = some (.string x1) := fun o => (World.cell?_alloc_lt wr o ⟨B, 0, none⟩ hB5).trans k3
                  have m4 : ∀ o, (wr.alloc o).cell? ⟨B, 1, none⟩ = some (.string x2) := fun o => (World.cell?_alloc_lt wr o ⟨B, 1, none⟩ hB5).trans k4
                  have hne : B ≠ wr.heap.size := by omega
                  generalize l[j] = y at d0 d1 HB6 HAs HT2
                  obtain ⟨y1, y2⟩ := y
                  dsimp only at d0 d1 HAs HT2
                  by_cases he : (x1.toList == y1.toList) = true
                  · have HE := Lib.hid (HT2.out (by have : x1.toList = y1.toList := by simpa using he
                                                    rw [Lib.toList_data, Lib.toList_data] at this; exact this.symm))
                    go_wp2
                    go_ret
                    exact ⟨ret_int (by rw [HE.out]; rfl), HB6.out⟩
                  · have he : (x1.toList == y1.toList) = false := by simpa using he
                    have HE := Lib.hid (HAs.out (by intro h; rw [Lib.toList_data, Lib.toList_data, h] at he; simp at he))
                    go_wp2
                    go_roundw
                    case rel => exact ⟨j + 1, by omega, by go_num, HE, m3 _, m4 _, HB6, by simp; omega⟩
                    case measure => simp [intOf]; omega
                · obtain rfl : j = k := by omega
                  have HE := Lib.hid (HSu.out hAp.out)
                  by_cases hz : 0 < x2.size
                  · have he := nonempty_of hz
                    have HF := Lib.hid (HKe.out (decide_eq_true hz))
                    go_wp2
                    go_roundw
                    case rel => exact ⟨j + 1, by omega, by go_num, by rw [HF.out]; simp, HE, hb4⟩
                    case measure => simp [intOf]; omega
                  · have he := empty_of (s := x2) (by omega)
                    have HF := Lib.hid (HDr.out (decide_eq_false hz))
                    go_wp2
                    go_roundw
                    case rel => exact ⟨j + 1, by omega, by go_num, by rw [HF.out], HE, hb4⟩
                    case measure => simp [intOf]; omega
            · obtain rfl : k = l.length := by omega
              have HN := Lib.hid (ndTo_nodup hND.out)
              rw [List.take_length]
              by_cases h6 : 6 < (l.filter hasIs).length
              · have HE := Lib.hid (codeB_full HP.out HN.out h6)
                go_wp2
                go_ret
                exact ⟨ret_int (by rw [HE.out]; rfl), hb.out⟩
              · have HE := Lib.hid (codeB_ok HP.out HN.out h6)
                go_wp2
                go_ret
                exact ⟨ret_int (by rw [HE.out]; rfl), hb.out⟩
end Go.Proofs.YtpbcgfgjdimpmaaDoor
