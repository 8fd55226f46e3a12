/- The model's draw of labels to be sorted, over this seat's translation. -/
import Derived.Test.YtoelcbfbpijfcaaDoorDraws
import Derived.Deep.Cut
namespace Go.Proofs.YtoelcbfbpijfcaaDoor
open Go.RowKit Go.Deep

def NumSaid : Prop := ∀ (k : Nat), k < 100 → ∀ w : World, Calls Tryd.prog 55 #[.int .i64 k] w fun e w' => ∃ x : ByteArray, x.size ≤ 2 ∧ e = .returned (.string x) ∧ Below w.heap.size w w'

set_option maxHeartbeats 8000000 in
set_option maxRecDepth 100000 in
theorem draw15 (hN : NumSaid) (w : World) (ao : Option Addr) (n cap : Nat) (h : BRow w w.heap.size ao n) (hn : n ≤ 1048576) : Calls Tryd.prog 15 #[.slice ao n cap] w (LDrawn 20 w) := by
  have H := Lib.hid (cur_new w ao n cap h)
  have HN := Lib.hid hN
  have HBC := Lib.hid (fun w' => below_cur (w := w) (w' := w') (o := .cells #[.slice ao n cap, .int .i64 0, .int .u64 0] 64))
  have HZ : Hid (w.heap.size ≤ (w.alloc (.cells #[.slice ao n cap, .int .i64 0, .int .u64 0] 64)).heap.size) := Lib.hid (by simp)
  clear h hN
  obtain ⟨i0, hi0, hz0, hz1, hz2⟩ := info_parts Tryd.info31
  go_enter Tryd.func15, Tryd.ntmps15
  go_upto_region 2 with fail
  generalize w.alloc (.cells #[.slice ao n cap, .int .i64 0, .int .u64 0] 64) = w0 at H HBC HZ ⊢
  obtain ⟨B, hB⟩ : ∃ B, B = w.heap.size := ⟨_, rfl⟩
  rw [← hB] at H ⊢
  have HBe := Lib.hid hB
  clear hB
  go_wp2_with fail
  refine (pick51 w0 B ao n cap 0 5 H.out hn (by omega) (by decide) (by decide)).mono ?_
  rintro e w1 ⟨r, hr0, hr1, rfl, hD⟩
  obtain ⟨j0, rfl⟩ := Int.eq_ofNat_of_zero_le hr0
  have hj0 : j0 ≤ 4 := by omega
  have HI : Hid (LInv w0 B ao n cap (13 - 3 * j0) (4 - j0) (.slice none 0 0) w1) := by
    obtain ⟨⟨k1, hk1, hC1⟩, hG1⟩ := hD
    exact Lib.hid ⟨[], k1, by omega, ⟨by simp, by simp⟩, World.ownsRow_nil _ _ _ _, hC1, hG1⟩
  clear hD hr0 hr1
  go_wp2_with fail
  go_loopw [4, 5] (fun v i wr => ∃ j : Nat, j ≤ 4 ∧ i = .int .i64 j ∧ Hid (LInv w0 B ao n cap (13 - 3 * j) (4 - j) v wr)) (fun _ i _ => (intOf i).toNat)
  case atStart => exact ⟨j0, hj0, rfl, HI⟩
  case round =>
    obtain ⟨j, hj3, rfl, hI⟩ := hrel
    cases j with
    | zero =>
      obtain ⟨l, k', hk', hs, hown, hC, hg⟩ := hI.out
      obtain ⟨va, vc, hv⟩ := own_form hown
      subst hv
      have HS := Lib.hid hs; have HO := Lib.hid hown; have HC := Lib.hid hC; have HG := Lib.hid hg
      clear hs hown hC hg hI
      go_wp2_with fail
      refine (one54 _ B ao n cap k' 20 HC.out hn (by omega) (by decide) (by decide)).mono ?_
      rintro e w3 ⟨b, rfl, ⟨k3, hk3, hC3⟩, hG3⟩
      have HC3 := Lib.hid hC3; have HG3 := Lib.hid (HG.out.trans hG3)
      have HO3 := Lib.hid (own_other HO.out H.out.lt hG3)
      clear hC3 hG3 HO HC HG
      cases b
      · have HE : Hid (LDrawn 20 w (.returned (.slice va l.length vc)) w3) := Lib.hid ⟨va, vc, l, HS.out.more (by omega), rfl, own_base HO3.out HZ.out, HBC.out _ (HBe.out ▸ HG3.out)⟩
        go_wp2
        go_ret
        exact HE.out
      · have HI2 : Hid (LInv w0 B ao n cap 14 4 (.slice va l.length vc) w3) := Lib.hid ⟨l, k3, by omega, HS.out, HO3.out, HC3.out, HG3.out⟩
        clear HS HO3 HC3 HG3
        generalize Value.slice va l.length vc = v0 at HI2 ⊢
        go_wp2_with fail
        go_loopw [4, 7] (fun v i wr => ∃ j : Nat, j ≤ 13 ∧ i = .int .i64 j ∧ Hid (LInv w0 B ao n cap (14 + j) (4 + j) v wr)) (fun _ i _ => 14 - (intOf i).toNat)
        case atStart => exact ⟨0, by omega, rfl, HI2⟩
        case round =>
          obtain ⟨j, hj13, rfl, hI⟩ := hrel
          obtain ⟨l, k', hk', hs, hown, hC, hg⟩ := hI.out
          have hl := hs.1
          have HS := Lib.hid hs; have HO := Lib.hid hown; have HC := Lib.hid hC; have HG := Lib.hid hg
          clear hs hown hC hg hI
          go_wp2_with fail
          refine (pick51 _ B ao n cap k' 7 HC.out hn (by omega) (by decide) (by decide)).mono ?_
          rintro e w4 ⟨r, hr0, hr1, rfl, ⟨k4, hk4, hC4⟩, hG4⟩
          obtain ⟨r, rfl⟩ := Int.eq_ofNat_of_zero_le hr0
          have HC4 := Lib.hid hC4; have HG4 := Lib.hid hG4
          have HO4 := Lib.hid (own_other HO.out H.out.lt hG4)
          clear hC4 hG4
          by_cases hlt : j < 7 + r
          · have hj12 : j ≤ 12 := by omega
            go_wp2_with fail
            refine (HN.out j (by omega) w4).mono ?_
            rintro e w5 ⟨x, hx, rfl, hb5⟩
            have HD5 : Hid (Drawn wr w5 B ao n cap k' 1) := Lib.hid ⟨⟨k4, hk4, HC4.out.below hb5⟩, HG4.out.trans (gb_below hb5)⟩
            have HO5 := Lib.hid (own_other HO.out H.out.lt HD5.out.2)
            have hxs : ((⟨#[110]⟩ : ByteArray) ++ x).size ≤ 21 := by rw [ByteArray.size_append]; have : (⟨#[110]⟩ : ByteArray).size = 1 := rfl; omega
            have HX := Lib.hid hxs
            clear hb5 HC4 HG4 HO4 hxs
            go_wp2_with (at_builtin; refine wpList_append_own _ rfl (.tmp 46) (.tmp 51) 24 rfl w0.heap.size 31 i0 _ 2 32 Tryd.underlying24 hi0 hz0 hz1 hz2 rfl (by decide) _ _ _ rfl (HO5.out.alloc _) ⟨w5.heap.size, 0, none⟩ 1 1 [.string (⟨#[110]⟩ ++ x), .string ⟨#[118]⟩] rfl rfl new_pair pair_one ?c3 ?c4 ?c5 ?_)
            case c3 => unfold maxLen; omega
            case c4 => omega
            case c5 => have h1 := HG.out.size; have h2 := HD5.out.2.size; simp; omega
            intro v' w7 hown' hgrow _
            have R := Lib.hid (linv_step (K := 14 + (j + 1)) H.out.lt HS.out HX.out (by decide) HO.out HG.out HD5.out (by omega) hown' hgrow)
            clear hown' hgrow
            go_wp2
            go_roundw
            case rel => exact ⟨j + 1, by omega, by go_num, R⟩
            case measure => simp [intOf]; omega
          · obtain ⟨va, vc, hv⟩ := own_form HO4.out
            subst hv
            have HE : Hid (LDrawn 20 w (.returned (.slice va l.length vc)) w4) := Lib.hid ⟨va, vc, l, HS.out.more (by omega), rfl, own_base HO4.out HZ.out, HBC.out _ (HBe.out ▸ HG.out.trans HG4.out)⟩
            go_wp2
            go_ret
            exact HE.out
    | succ j =>
      obtain ⟨l, k', hk', hs, hown, hC, hg⟩ := hI.out
      have HS := Lib.hid hs; have HO := Lib.hid hown; have HC := Lib.hid hC; have HG := Lib.hid hg
      have hl := hs.1
      clear hs hown hC hg hI
      go_wp2_with fail
      refine (name52 _ B ao n cap k' HC.out hn (by omega)).mono ?_
      rintro e w2 ⟨x1, hx1, rfl, ⟨k2, hk2, hC2⟩, hG2⟩
      have HC2 := Lib.hid hC2; have HG2 := Lib.hid hG2
      clear hC2 hG2
      go_wp2_with fail
      refine (is53 _ B ao n cap k2 HC2.out hn (by omega)).mono ?_
      rintro e w3 ⟨x2, hx2, rfl, hD3⟩
      have HD := Lib.hid (Drawn.trans (k := k') (i := 1) (j := 1) HG2.out hk2 hD3)
      have HC3 : Hid (∃ k3, k3 ≤ k' + 2 ∧ Cur w3 B ao n cap k3) := Lib.hid HD.out.1
      clear hD3
      obtain ⟨k3, hk3, hC3⟩ := HC3.out
      have HC3' := Lib.hid hC3
      clear hC3 HC3
      go_wp2_with fail
      refine (pick51 _ B ao n cap k3 20 (HC3'.out.alloc _) hn (by omega) (by decide) (by decide)).mono ?_
      rintro e w5 ⟨r, hr0, hr1, rfl, hD5⟩
      have hBw : B < wr.heap.size := HC.out.lt
      have hw3 : wr.heap.size ≤ w3.heap.size := HD.out.2.size
      have m0 := hD5.2.cell (a := ⟨w3.heap.size, 0, none⟩) (v := .string x1) (by simp) (by simp; omega)
      have m1 := hD5.2.cell (a := ⟨w3.heap.size, 1, none⟩) (v := .string x2) (by simp) (by simp; omega)
      have f0 : w5.frozen? ⟨w3.heap.size, 0, none⟩ = false := by rw [World.frozen?_of_block (hD5.2.block _ (by simp) (by simp; omega))]; simp
      have f1 : w5.frozen? ⟨w3.heap.size, 1, none⟩ = false := by rw [World.frozen?_of_block (hD5.2.block _ (by simp) (by simp; omega))]; simp
      have HD5 := Lib.hid (Drawn.trans (k := k') (i := 2) (j := 1) (HD.out.2.trans (World.grownBy_alloc _ _ _)) hk3 hD5)
      clear hD5
      by_cases h0 : r = 0
      · subst h0
        go_upto_region 14 with fail
        have HD6 := Lib.hid (HD5.out.stored (g := w3.heap.size) hBw hw3 1 (.string ⟨#[]⟩))
        have a0 : (w5.setCell ⟨w3.heap.size, 1, none⟩ (.string ⟨#[]⟩)).cell? ⟨w3.heap.size, 0, none⟩ = some (.string x1) := (World.cell?_setCell_other _ _ _ _ (by simp)).trans m0
        have a1 : (w5.setCell ⟨w3.heap.size, 1, none⟩ (.string ⟨#[]⟩)).cell? ⟨w3.heap.size, 1, none⟩ = some (.string ⟨#[]⟩) := World.cell?_setCell_same _ _ _ m1
        generalize w5.setCell ⟨w3.heap.size, 1, none⟩ (.string ⟨#[]⟩) = w6 at HD6 a0 a1 ⊢
        clear m0 m1 f0 f1
        have HO6 := Lib.hid (own_other HO.out H.out.lt HD6.out.2)
        go_wp2_with (at_builtin; refine wpList_append_own _ rfl (.tmp 33) (.tmp 35) 24 rfl w0.heap.size 31 i0 _ 2 32 Tryd.underlying24 hi0 hz0 hz1 hz2 rfl (by decide) _ _ _ rfl (HO6.out.alloc _) ⟨w6.heap.size, 0, none⟩ 1 1 [.string x1, .string ⟨#[]⟩] rfl rfl new_pair pair_one ?c3 ?c4 ?c5 ?_)
        case c3 => unfold maxLen; omega
        case c4 => omega
        case c5 => have h1 := HG.out.size; have h2 := HD6.out.2.size; simp; omega
        intro v' w7 hown' hgrow _
        have R := Lib.hid (linv_step (K := 13 - 3 * j) H.out.lt HS.out (by omega) (by decide) HO.out HG.out HD6.out (by omega) hown' hgrow)
        have e1 : 4 - (j + 1) + 1 = 4 - j := by omega
        rw [e1] at R
        clear hown' hgrow
        go_wp2
        go_roundw
        case rel => exact ⟨j, by omega, by go_num, R⟩
        case measure => simp [intOf]
      by_cases h1 : r = 1
      · subst h1
        go_upto_region 14 with fail
        have HD6 := Lib.hid (HD5.out.stored (g := w3.heap.size) hBw hw3 0 (.string ⟨#[65]⟩))
        have a0 : (w5.setCell ⟨w3.heap.size, 0, none⟩ (.string ⟨#[65]⟩)).cell? ⟨w3.heap.size, 0, none⟩ = some (.string ⟨#[65]⟩) := World.cell?_setCell_same _ _ _ m0
        have a1 : (w5.setCell ⟨w3.heap.size, 0, none⟩ (.string ⟨#[65]⟩)).cell? ⟨w3.heap.size, 1, none⟩ = some (.string x2) := (World.cell?_setCell_other _ _ _ _ (by simp)).trans m1
        generalize w5.setCell ⟨w3.heap.size, 0, none⟩ (.string ⟨#[65]⟩) = w6 at HD6 a0 a1 ⊢
        clear m0 m1 f0 f1
        have HO6 := Lib.hid (own_other HO.out H.out.lt HD6.out.2)
        go_wp2_with (at_builtin; refine wpList_append_own _ rfl (.tmp 33) (.tmp 35) 24 rfl w0.heap.size 31 i0 _ 2 32 Tryd.underlying24 hi0 hz0 hz1 hz2 rfl (by decide) _ _ _ rfl (HO6.out.alloc _) ⟨w6.heap.size, 0, none⟩ 1 1 [.string ⟨#[65]⟩, .string x2] rfl rfl new_pair pair_one ?c3 ?c4 ?c5 ?_)
        case c3 => unfold maxLen; omega
        case c4 => omega
        case c5 => have h1 := HG.out.size; have h2 := HD6.out.2.size; simp; omega
        intro v' w7 hown' hgrow _
        have R := Lib.hid (linv_step (K := 13 - 3 * j) H.out.lt HS.out (by decide) (by omega) HO.out HG.out HD6.out (by omega) hown' hgrow)
        have e1 : 4 - (j + 1) + 1 = 4 - j := by omega
        rw [e1] at R
        clear hown' hgrow
        go_wp2
        go_roundw
        case rel => exact ⟨j, by omega, by go_num, R⟩
        case measure => simp [intOf]
      by_cases h2 : r = 2
      · subst h2
        go_upto_region 14 with fail
        have HD6 := Lib.hid (HD5.out.stored (g := w3.heap.size) hBw hw3 1 (.string ⟨#[97, 32, 98]⟩))
        have a0 : (w5.setCell ⟨w3.heap.size, 1, none⟩ (.string ⟨#[97, 32, 98]⟩)).cell? ⟨w3.heap.size, 0, none⟩ = some (.string x1) := (World.cell?_setCell_other _ _ _ _ (by simp)).trans m0
        have a1 : (w5.setCell ⟨w3.heap.size, 1, none⟩ (.string ⟨#[97, 32, 98]⟩)).cell? ⟨w3.heap.size, 1, none⟩ = some (.string ⟨#[97, 32, 98]⟩) := World.cell?_setCell_same _ _ _ m1
        generalize w5.setCell ⟨w3.heap.size, 1, none⟩ (.string ⟨#[97, 32, 98]⟩) = w6 at HD6 a0 a1 ⊢
        clear m0 m1 f0 f1
        have HO6 := Lib.hid (own_other HO.out H.out.lt HD6.out.2)
        go_wp2_with (at_builtin; refine wpList_append_own _ rfl (.tmp 33) (.tmp 35) 24 rfl w0.heap.size 31 i0 _ 2 32 Tryd.underlying24 hi0 hz0 hz1 hz2 rfl (by decide) _ _ _ rfl (HO6.out.alloc _) ⟨w6.heap.size, 0, none⟩ 1 1 [.string x1, .string ⟨#[97, 32, 98]⟩] rfl rfl new_pair pair_one ?c3 ?c4 ?c5 ?_)
        case c3 => unfold maxLen; omega
        case c4 => omega
        case c5 => have h1 := HG.out.size; have h2 := HD6.out.2.size; simp; omega
        intro v' w7 hown' hgrow _
        have R := Lib.hid (linv_step (K := 13 - 3 * j) H.out.lt HS.out (by omega) (by decide) HO.out HG.out HD6.out (by omega) hown' hgrow)
        have e1 : 4 - (j + 1) + 1 = 4 - j := by omega
        rw [e1] at R
        clear hown' hgrow
        go_wp2
        go_roundw
        case rel => exact ⟨j, by omega, by go_num, R⟩
        case measure => simp [intOf]
      go_upto_region 14 with fail
      have HD6 := HD5
      obtain ⟨w6, hw6⟩ : ∃ x, x = w5 := ⟨_, rfl⟩
      rw [← hw6] at HD6 m0 m1 ⊢
      clear hw6 f0 f1
      have HO6 := Lib.hid (own_other HO.out H.out.lt HD6.out.2)
      go_wp2_with (at_builtin; refine wpList_append_own _ rfl (.tmp 33) (.tmp 35) 24 rfl w0.heap.size 31 i0 _ 2 32 Tryd.underlying24 hi0 hz0 hz1 hz2 rfl (by decide) _ _ _ rfl (HO6.out.alloc _) ⟨w6.heap.size, 0, none⟩ 1 1 [.string x1, .string x2] rfl rfl new_pair pair_one ?c3 ?c4 ?c5 ?_)
      case c3 => unfold maxLen; omega
      case c4 => omega
      case c5 => have h1 := HG.out.size; have h2 := HD6.out.2.size; simp; omega
      intro v' w7 hown' hgrow _
      have R := Lib.hid (linv_step (K := 13 - 3 * j) H.out.lt HS.out (by omega) (by omega) HO.out HG.out HD6.out (by omega) hown' hgrow)
      have e1 : 4 - (j + 1) + 1 = 4 - j := by omega
      rw [e1] at R
      clear hown' hgrow
      go_wp2
      go_roundw
      case rel => exact ⟨j, by omega, by go_num, R⟩
      case measure => simp [intOf]
end Go.Proofs.YtoelcbfbpijfcaaDoor
