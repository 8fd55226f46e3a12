/- Contract of the model's drawing of labels, over this seat's translation. -/
import Derived.Test.YtpbcgfgjdimpmaaDoorDrawt
import Derived.Test.YtpbcgfgjdimpmaaDoorSpecs
namespace Go.Proofs.YtpbcgfgjdimpmaaDoor
open Go.RowKit Go.Deep

/-- What a loop that draws labels keeps. -/
def LInv (w : World) (B : Nat) (ao : Option Addr) (n cap K M : Nat) (v : Value) (wr : World) : Prop :=
  ∃ (l : List Lab) (k' : Nat), k' ≤ K ∧ Small M l ∧ wr.ownsRow w.heap.size 82 2 v l.length (cellsOf l) ∧ Cur wr B ao n cap k' ∧ w.grownBy wr (some B)

theorem linv_step {w wr w1 w2 : World} {B : Nat} {ao : Option Addr} {n cap K k1 j M : Nat} {v v' : Value} {x1 x2 : ByteArray} {l : List Lab} {o : Obj} (hB : B < w.heap.size) (hs : Small M l) (h1 : x1.size ≤ 21) (h2 : x2.size ≤ 21)
    (hown : wr.ownsRow w.heap.size 82 2 v l.length (cellsOf l)) (hg0 : w.grownBy wr (some B)) (hD : Drawn wr w1 B ao n cap k1 j) (hk : k1 + j ≤ K)
    (hown' : w2.ownsRow w.heap.size 82 2 v' (l.length + 1) (cellsOf l ++ [.string x1, .string x2])) (hgrow : (w1.alloc o).grownBy w2 v.ownBlock) : LInv w B ao n cap K (M + 1) v' w2 := by
  obtain ⟨⟨k2, hk2, hC⟩, hg1⟩ := hD
  have hge : ∀ g, v.ownBlock = some g → w.heap.size ≤ g := fun g hg => (hown.lt g hg).1
  refine ⟨l ++ [(x1, x2)], k2, by omega, hs.append h1 h2, by rw [cellsOf_append, List.length_append]; exact hown', (hC.alloc o).kept hgrow (fun g hg => by have := hge g hg; omega), ?_⟩
  exact ((hg0.trans hg1).trans (World.grownBy_alloc _ _ _)).andThen hgrow (fun g hg => .inl (hge g hg))

theorem small_sort {m : Nat} {l R : List Lab} (h : Small m l) (hR : ResS l R) : Small m R := by
  by_cases hc : codeB l = 0
  · have hp := (hR.1 hc).1
    refine ⟨?_, fun x hx => h.2 x (List.mem_filter.1 (hp.subset hx)).1⟩
    rw [hp.length_eq]
    exact Nat.le_trans (List.length_filter_le _ _) h.1
  · rw [hR.2 hc]
    exact ⟨by simp, by simp⟩

set_option maxHeartbeats 2000000 in
theorem labels65 (w : World) (B : Nat) (ao : Option Addr) (n cap k : Nat) (h : Cur w B ao n cap k) (hn : n ≤ 1048576) (hk : k ≤ 8000000) :
    Calls Tryd.prog 107 #[.pointer (some ⟨B, 0, none⟩)] w (Labelled w B ao n cap k 7 4) := by
  have H := Lib.hid h
  clear h
  obtain ⟨i0, hi0, hz0, hz1, hz2⟩ := info_parts Tryd.info82
  go_enter Tryd.func107, Tryd.ntmps107
  go_wp2_with fail
  refine (pick51 w B ao n cap k 4 H.out hn (by omega) (by decide) (by decide)).mono ?_
  rintro e w1 ⟨r, hr0, hr1, rfl, hD⟩
  obtain ⟨j0, rfl⟩ := Int.eq_ofNat_of_zero_le hr0
  have hj0 : j0 ≤ 3 := by omega
  have HI : Hid (LInv w B ao n cap (k + 7 - 2 * j0) (3 - j0) (.slice none 0 0) w1) := by
    obtain ⟨⟨k1, hk1, hC1⟩, hG1⟩ := hD
    exact Lib.hid ⟨[], k1, by omega, ⟨by simp, by simp⟩, World.ownsRow_nil _ _ _ _, hC1, hG1⟩
  clear hD
  go_wp2_with fail
  go_loopw [3, 4] (fun v i wr => ∃ j : Nat, j ≤ 3 ∧ i = .int .i64 j ∧ Hid (LInv w B ao n cap (k + 7 - 2 * j) (3 - j) v wr)) (fun _ i _ => (intOf i).toNat)
  case atStart => exact ⟨j0, hj0, rfl, HI⟩
  case round =>
    obtain ⟨j, hj3, rfl, hI⟩ := hrel
    cases j with
    | zero =>
      obtain ⟨l, k', hk', hs, hown, hC, hg⟩ := hI.out
      have HS := Lib.hid hs; have HO := Lib.hid hown; have HC := Lib.hid hC; have HG := Lib.hid hg
      clear hs hown hC hg hI
      have hfit := HS.out.fit (by omega)
      go_wp2_with fail
      refine (sort17 _ _ l hfit _ HO.out).mono ?_
      rintro e w2 ⟨v2, R, rfl, hR, ho2, hb2⟩
      have HR := Lib.hid (small_sort HS.out hR)
      have HD2 : Hid (Drawn w w2 B ao n cap k 7) := Lib.hid ⟨⟨k', by omega, HC.out.below hb2⟩, HG.out.trans (gb_below hb2)⟩
      have HO2 := Lib.hid (own_base ho2 HG.out.size)
      clear hR ho2 hb2
      by_cases hc : codeB l = 0
      · have hz : (codeB l == 0) = true := by simpa using hc
        rw [hz]
        clear hz
        go_wp2
        go_ret
        exact ⟨_, R, HR.out.more (by omega), rfl, HO2.out, HD2.out⟩
      · have hz : (codeB l == 0) = false := by simpa using hc
        rw [hz]
        clear hz
        go_wp2
        go_ret
        exact ⟨_, [(⟨#[106, 111, 98]⟩, ⟨#[97]⟩)], ⟨by decide, by decide⟩, rfl, own_one _ _ _ (Nat.le_trans HD2.out.2.size (Nat.le_refl _)), HD2.out.alloc _⟩
    | succ j =>
      obtain ⟨l, k', hk', hs, hown, hC, hg⟩ := hI.out
      have HS := Lib.hid hs; have HO := Lib.hid hown; have HC := Lib.hid hC; have HG := Lib.hid hg
      have hl := hs.1
      clear hs hown hC hg hI
      go_wp2_with fail
      refine (name52 _ B ao n cap k' HC.out hn (by omega)).mono ?_
      rintro e w2 ⟨x1, hx1, rfl, ⟨k2, hk2, hC2⟩, hG2⟩
      have HC2 := Lib.hid hC2; have HG2 := Lib.hid hG2
      clear hC2 hG2
      go_wp2_with fail
      refine (is53 _ B ao n cap k2 HC2.out hn (by omega)).mono ?_
      rintro e w3 ⟨x2, hx2, rfl, hD3⟩
      have HD := Lib.hid (Drawn.trans (i := 1) (j := 1) HG2.out hk2 hD3)
      clear hD3
      go_wp2_with (at_builtin; refine wpList_append_own _ rfl (.tmp 14) (.tmp 20) 24 rfl w.heap.size 82 i0 _ 2 32 Tryd.underlying24 hi0 hz0 hz1 hz2 rfl (by decide) _ _ _ rfl ((own_other HO.out H.out.lt HD.out.2).alloc _) ⟨w3.heap.size, 0, none⟩ 1 1 [.string x1, .string x2] rfl rfl new_pair pair_one ?c3 ?c4 ?c5 ?_)
      case c3 => unfold maxLen; omega
      case c4 => omega
      case c5 => have h1 := HG.out.size; have h2 := HD.out.2.size; simp; omega
      intro v' w4 hown' hgrow _
      have R := Lib.hid (linv_step (K := k + 7 - 2 * j) H.out.lt HS.out (by omega) (by omega) HO.out HG.out HD.out (by omega) hown' hgrow)
      have e1 : 3 - (j + 1) + 1 = 3 - j := by omega
      rw [e1] at R
      clear hown' hgrow
      go_wp2
      go_roundw
      case rel => exact ⟨j, by omega, by go_num, R⟩
      case measure => simp [intOf]
end Go.Proofs.YtpbcgfgjdimpmaaDoor
