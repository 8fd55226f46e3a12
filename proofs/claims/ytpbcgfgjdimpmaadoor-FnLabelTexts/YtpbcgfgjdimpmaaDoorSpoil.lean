/- Contracts of spoiling a text and of the draws for the laws of chapter 3, over this seat's translation: something short, nothing that was there written. -/
import Derived.Test.YtpbcgfgjdimpmaaDoorDrawm
import Derived.BigQuiet
namespace Go.Proofs.YtpbcgfgjdimpmaaDoor
open Go.RowKit Go.Deep

def Spoilt (s : ByteArray) (w : World) (B : Nat) (ao : Option Addr) (n cap k j : Nat) (e : Ending) (w' : World) : Prop :=
  ∃ x : ByteArray, x.size ≤ s.size + 2 ∧ e = .returned (.string x) ∧ Drawn w w' B ao n cap k j
def SInv (w : World) (B : Nat) (ao : Option Addr) (n cap K : Nat) (wr : World) : Prop := ∃ k', k' ≤ K ∧ Cur wr B ao n cap k' ∧ w.grownBy wr (some B)

theorem SInv.drewN {w wr : World} {B : Nat} {ao : Option Addr} {n cap K : Nat} (h : SInv w B ao n cap K wr) (q : Nat) : Hid (SInv w B ao n cap K (wr.drewN q)) := by
  obtain ⟨k', hk, hC, hG⟩ := h
  exact Lib.hid ⟨k', hk, hC.kept (grownBy_drewN wr q none) (fun g hg => by cases hg), hG.trans (grownBy_drewN wr q _)⟩
set_option maxHeartbeats 8000000 in
set_option maxRecDepth 100000 in
theorem spoilt71 (s t : ByteArray) (hs : s.size ≤ 190) (ht1 : 1 ≤ t.size) (ht2 : t.size ≤ 190) (w : World) (B : Nat) (ao : Option Addr) (n cap k : Nat) (h : Cur w B ao n cap k) (hn : n ≤ 1048576) (hk : k ≤ 8000000) :
    Calls Tryd.prog 71 #[.pointer (some ⟨B, 0, none⟩), .string s, .string t] w (Spoilt s w B ao n cap k 7) := by
  have H := Lib.hid h
  clear h
  go_enter Tryd.func71, Tryd.ntmps71
  go_wp2_with fail
  refine (pick51 w B ao n cap k 2 H.out hn (by omega) (by decide) (by decide)).mono ?_
  rintro e w1 ⟨r, hr0, hr1, rfl, hD⟩
  obtain ⟨j0, rfl⟩ := Int.eq_ofNat_of_zero_le hr0
  have HI : Hid (SInv w B ao n cap (k + 7 - 3 * (1 + j0)) w1) := by
    obtain ⟨⟨k1, hk1, hC1⟩, hG1⟩ := hD
    exact Lib.hid ⟨k1, by omega, hC1, hG1⟩
  clear hD
  go_wp2_with fail
  go_loopw [1, 7] (fun sv i wr => ∃ (j : Nat) (x : ByteArray), j ≤ 2 ∧ i = .int .i64 j ∧ sv = .string x ∧ x.size + j ≤ s.size + 2 ∧ Hid (SInv w B ao n cap (k + 7 - 3 * j) wr)) (fun _ i _ => (intOf i).toNat)
  case atStart => exact ⟨1 + j0, s, by omega, by simp, rfl, by omega, HI⟩
  case round =>
    obtain ⟨j, x, hj2, rfl, rfl, hx, hI⟩ := hrel
    by_cases hj : j = 0
    · subst hj
      obtain ⟨k', hk', hC, hG⟩ := hI.out
      have HC := Lib.hid hC; have HG := Lib.hid hG
      clear hC hG hI
      go_wp2
      go_ret
      exact ⟨x, by omega, rfl, ⟨k', by omega, HC.out⟩, HG.out⟩
    by_cases hx0 : 0 < x.size
    case neg =>
      obtain ⟨k', hk', hC, hG⟩ := hI.out
      have HC := Lib.hid hC; have HG := Lib.hid hG
      clear hC hG hI
      go_wp2
      go_ret
      exact ⟨x, by omega, rfl, ⟨k', by omega, HC.out⟩, HG.out⟩
    obtain ⟨i, rfl⟩ : ∃ i, j = i + 1 := ⟨j - 1, by omega⟩
    obtain ⟨k', hk', hC, hG⟩ := hI.out
    have HC := Lib.hid hC; have HG := Lib.hid hG
    clear hC hG hI
    go_wp2_with fail
    refine (pick51 _ B ao n cap k' x.size HC.out hn (by omega) (by omega) (by omega)).mono ?_
    rintro e w2 ⟨r2, hr20, hr21, rfl, ⟨k2, hk2, hC2⟩, hg2⟩
    obtain ⟨a, rfl⟩ := Int.eq_ofNat_of_zero_le hr20
    have ha : a < x.size := by omega
    have HC2 := Lib.hid hC2; have HG2 := Lib.hid (HG.out.trans hg2)
    clear hC2 hg2
    go_wp2_with fail
    refine (pick51 _ B ao n cap k2 t.size HC2.out hn (by omega) (by omega) (by omega)).mono ?_
    rintro e w3 ⟨r3, hr30, hr31, rfl, ⟨k3, hk3, hC3⟩, hg3⟩
    obtain ⟨b, rfl⟩ := Int.eq_ofNat_of_zero_le hr30
    have hb : b < t.size := by omega
    have HC3 := Lib.hid (hC3.alloc (.cells #[.int .u8 ((t[b]'hb).toNat : Int)] 5)); have HG3 := Lib.hid ((HG2.out.trans hg3).trans (World.grownBy_alloc _ (.cells #[.int .u8 ((t[b]'hb).toNat : Int)] 5) _))
    have hcv := conv_one w3 ((t[b]'hb).toNat : Int)
    clear hC3 hg3
    go_wp2_with fail
    refine (pick51 _ B ao n cap k3 3 HC3.out hn (by omega) (by omega) (by omega)).mono ?_
    rintro e w4 ⟨r4, hr40, hr41, rfl, ⟨k4, hk4, hC4⟩, hg4⟩
    have HI4 : Hid (SInv w B ao n cap (k + 7 - 3 * i) w4) := Lib.hid ⟨k4, by omega, hC4, HG3.out.trans hg4⟩
    clear hC4 hg4 hcv HC3 HG3
    obtain ⟨y, hy⟩ : ∃ y : ByteArray, y = ⟨#[t[b]'hb]⟩ := ⟨_, rfl⟩
    have hys : y.size = 1 := by rw [hy]; rfl
    rw [← hy]
    clear hy
    by_cases e0 : r4 = 0
    · subst e0
      go_wp2_with fail
      go_quiet (fail)
      go_wp2
      go_roundw
      case rel => exact ⟨i, _, by omega, by go_num, rfl, by simp only [ByteArray.size_append, ByteArray.size_extract]; omega, HI4.out.drewN nq⟩
      case measure => simp [intOf]
    have q0 : (r4 == 0) = false := beq_eq_false_iff_ne.2 e0
    by_cases e1 : r4 = 1
    · subst e1
      go_wp2_with fail
      go_quiet (fail)
      go_wp2
      go_roundw
      case rel => exact ⟨i, _, by omega, by go_num, rfl, by simp only [ByteArray.size_append, ByteArray.size_extract]; omega, HI4.out.drewN nq⟩
      case measure => simp [intOf]
    have q1 : (r4 == 1) = false := beq_eq_false_iff_ne.2 e1
    go_wp2_with fail
    go_quiet (fail)
    go_wp2
    go_roundw
    case rel => exact ⟨i, _, by omega, by go_num, rfl, by simp only [ByteArray.size_append, ByteArray.size_extract]; omega, HI4.out.drewN nq⟩
    case measure => simp [intOf]

theorem BRow.below {w w' : World} {ao : Option Addr} {n : Nat} (h : BRow w w.heap.size ao n) (hb : Below w.heap.size w w') : BRow w' w'.heap.size ao n := fun hp => by
  obtain ⟨b, off, e, hl, hc⟩ := h hp
  refine ⟨b, off, e, Nat.lt_of_lt_of_le hl hb.size, fun i hi => ?_⟩
  obtain ⟨z, z0, z1, z2⟩ := hc i hi
  exact ⟨z, z0, z1, (hb.cell (p := ⟨b, off + i, none⟩) hl).trans z2⟩
def MDrawn (w : World) (e : Ending) (w' : World) : Prop := ∃ (q : Int) (x y : ByteArray), x.size ≤ 20 ∧ y.size ≤ 20 ∧ e = .returned (matV q x y) ∧ Below w.heap.size w w'

set_option maxHeartbeats 2000000 in
set_option maxRecDepth 100000 in
theorem draw45 (w : World) (ao : Option Addr) (n cap : Nat) (h : BRow w w.heap.size ao n) (hn : n ≤ 1048576) : Calls Tryd.prog 45 #[.slice ao n cap] w (MDrawn w) := by
  have HB0 := Lib.hid ((Below.refl w.heap.size w).alloc (Nat.le_refl _) (.cells #[.int .i64 0, .string ⟨#[]⟩, .string ⟨#[]⟩] 43))
  have HC0 : Hid (Cur ((w.alloc (.cells #[.int .i64 0, .string ⟨#[]⟩, .string ⟨#[]⟩] 43)).alloc (.cells #[.slice ao n cap, .int .i64 0, .int .u64 0] 90)) (w.heap.size + 1) ao n cap 0) := Lib.hid (by
    have := cur_new _ ao n cap (h.below HB0.out)
    rwa [show (w.alloc (.cells #[.int .i64 0, .string ⟨#[]⟩, .string ⟨#[]⟩] 43)).heap.size = w.heap.size + 1 by simp] at this)
  have HR0 := Lib.hid ((Blk3.new w (.int .i64 0) (.string ⟨#[]⟩) (.string ⟨#[]⟩)).alloc (.cells #[.slice ao n cap, .int .i64 0, .int .u64 0] 90))
  have HBa := Lib.hid (HB0.out.alloc HB0.out.size (.cells #[.slice ao n cap, .int .i64 0, .int .u64 0] 90))
  clear h
  go_enter Tryd.func45, Tryd.ntmps45
  go_wp2_with fail
  refine (matcher81 _ (w.heap.size + 1) ao n cap 0 HC0.out hn (by omega)).mono ?_
  rintro e w1 ⟨q, x, y, hx, hy, rfl, _, hg⟩
  obtain ⟨z0, z1, z2, f0, f1, f2⟩ := (HR0.out.kept hg (by omega)).cells
  have HB1 := Lib.hid (HBa.out.grown hg HBa.out.size (fun k hk => by injection hk with hk; omega))
  clear hg
  go_wp2
  have hbs := HB1.out
  exact bodyPost_ret (v := matV q x y) (by simp [results, Tryd.results45, go_sem, z0, z1, z2]) rfl ⟨q, x, y, hx, hy, rfl, ((hbs.setCell (Nat.le_refl _) _).setCell (Nat.le_refl _) _).setCell (Nat.le_refl _) _⟩

set_option maxHeartbeats 2000000 in
set_option maxRecDepth 100000 in
theorem draw43 (w : World) (ao : Option Addr) (n cap : Nat) (h : BRow w w.heap.size ao n) (hn : n ≤ 1048576) : Calls Tryd.prog 43 #[.slice ao n cap] w (MDrawn w) := by
  have HB0 := Lib.hid ((Below.refl w.heap.size w).alloc (Nat.le_refl _) (.cells #[.int .i64 0, .string ⟨#[]⟩, .string ⟨#[]⟩] 43))
  have H := Lib.hid (h.below HB0.out)
  clear h
  go_enter Tryd.func43, Tryd.ntmps43
  go_wp2_with fail
  refine (draw45 _ ao n cap H.out hn).mono ?_
  rintro e w1 ⟨q, x, y, hx, hy, rfl, hb⟩
  obtain ⟨z0, z1, z2, f0, f1, f2⟩ := cellz hb
  have HB1 := Lib.hid (HB0.out.trans (hb.mono HB0.out.size))
  clear hb
  go_wp2
  have hbs := HB1.out
  exact bodyPost_ret (v := matV q x y) (by simp [results, Tryd.results43, go_sem, z0, z1, z2]) rfl ⟨q, x, y, hx, hy, rfl, ((hbs.setCell (Nat.le_refl _) _).setCell (Nat.le_refl _) _).setCell (Nat.le_refl _) _⟩

theorem mtextF_size (k : Int) (n s : ByteArray) : (mtextF k n s).size ≤ 28 := by
  cases h : matB (k, n, s)
  · rw [mtextF_no h]; decide
  · have := readsM_size (D := (mtext k n s).data.toList) (k := k) (n := n) (s := s) ⟨h, rfl⟩
    rw [mtextF_yes h, Lib.size_eq]; exact this
def TDrawn (m : Nat) (w : World) (e : Ending) (w' : World) : Prop := ∃ x : ByteArray, x.size ≤ m ∧ e = .returned (.string x) ∧ Below w.heap.size w w'

set_option maxHeartbeats 2000000 in
set_option maxRecDepth 100000 in
theorem draw49 (w : World) (ao : Option Addr) (n cap : Nat) (h : BRow w w.heap.size ao n) (hn : n ≤ 1048576) : Calls Tryd.prog 49 #[.slice ao n cap] w (TDrawn 30 w) := by
  have HC0 := Lib.hid (cur_new w ao n cap h)
  clear h
  go_enter Tryd.func49, Tryd.ntmps49
  go_wp2_with fail
  refine (matcher81 _ _ ao n cap 0 HC0.out hn (by omega)).mono ?_
  rintro e w1 ⟨q, x, y, hx, hy, rfl, ⟨k1, hk1, hC1⟩, hg⟩
  have HC1 := Lib.hid hC1
  have HB1 := Lib.hid (below_cur hg)
  clear hC1 hg
  go_wp2_with fail
  refine (mtext47 q x y (by omega) (by omega) _).mono ?_
  rintro e w2 ⟨rfl, hb⟩
  have HC2 := Lib.hid (HC1.out.below hb)
  have HB2 := Lib.hid (HB1.out.trans (hb.mono HB1.out.size))
  clear hb
  have hz := mtextF_size q x y
  generalize mtextF q x y = s at hz ⊢
  generalize matB (q, x, y) = ok
  go_wp2_with fail
  refine (one54 _ _ ao n cap k1 3 HC2.out hn (by omega) (by decide) (by decide)).mono ?_
  rintro e w3 ⟨b, rfl, ⟨k3, hk3, hC3⟩, hg3⟩
  have HC3 := Lib.hid hC3
  have HB3 := Lib.hid (HB2.out.grown hg3 HB2.out.size (fun k hk => by injection hk with hk; omega))
  clear hC3 hg3
  cases b with
  | false =>
    go_wp2
    go_ret
    exact ⟨s, by omega, rfl, HB3.out⟩
  | true =>
    go_wp2_with fail
    refine (spoilt71 s ⟨#[61, 33, 126, 34, 97]⟩ (by omega) (by decide) (by decide) _ _ ao n cap k3 HC3.out hn (by omega)).mono ?_
    rintro e w4 ⟨x4, hx4, rfl, _, hg4⟩
    have HB4 := Lib.hid (HB3.out.grown hg4 HB3.out.size (fun k hk => by injection hk with hk; omega))
    clear hg4
    go_wp2
    go_ret
    exact ⟨x4, by omega, rfl, HB4.out⟩

def MsDrawn (m : Nat) (w : World) (e : Ending) (w' : World) : Prop := ∃ (ao : Option Addr) (c : Nat) (l : List Mat), SmallM m l ∧ e = .returned (.slice ao l.length c) ∧ MRow w' w'.heap.size ao l ∧ Below w.heap.size w w'

set_option maxHeartbeats 4000000 in
set_option maxRecDepth 100000 in
theorem draw51 (w : World) (ao : Option Addr) (n cap : Nat) (h : BRow w w.heap.size ao n) (hn : n ≤ 1048576) : Calls Tryd.prog 51 #[.slice ao n cap] w (MsDrawn 8 w) := by
  have HC0 := Lib.hid (cur_new w ao n cap h)
  clear h
  obtain ⟨i0, hi0, hz0, hz1, hz2⟩ := info_parts Tryd.info43
  have hsz : (w.alloc (.cells #[.slice ao n cap, .int .i64 0, .int .u64 0] 90)).heap.size = w.heap.size + 1 := by simp
  go_enter Tryd.func51, Tryd.ntmps51
  go_wp2_with fail
  refine (matchers87 _ _ ao n cap 0 HC0.out hn (by omega)).mono ?_
  rintro e w1 ⟨v, l, hs, rfl, ho, ⟨k1, hk1, hC1⟩, hg⟩
  have HS := Lib.hid hs
  have HO := Lib.hid ho
  have HC1 := Lib.hid hC1
  have HG := Lib.hid hg
  clear hs ho hC1 hg
  go_wp2_with fail
  refine (one54 _ _ ao n cap k1 20 HC1.out hn (by omega) (by decide) (by decide)).mono ?_
  rintro e w3 ⟨b, rfl, ⟨k3, hk3, hC3⟩, hg3⟩
  have HI : Hid (MInv (w.alloc (.cells #[.slice ao n cap, .int .i64 0, .int .u64 0] 90)) w.heap.size ao n cap (12 + 5 * 0) (2 + 0) v w3) := Lib.hid ⟨l, k3, by omega, HS.out, own_other HO.out (by simp) hg3, hC3, HG.out.trans hg3⟩
  clear hC3 hg3
  cases b with
  | false =>
    obtain ⟨l', k', _, hs', ho', _, hg'⟩ := HI.out
    obtain ⟨vo, vc, rfl⟩ := own_slice ho'
    have HO' := Lib.hid (MRow.of_own ho').2
    have HB' := Lib.hid (below_cur hg')
    have HS' := Lib.hid hs'
    clear ho' hg' hs'
    go_wp2
    go_ret
    exact ⟨vo, vc, l', HS'.out.more (by omega), rfl, HO'.out, HB'.out⟩
  | true =>
    go_wp2_with fail
    go_loopw [4, 5] (fun v i wr => ∃ j : Nat, j ≤ 6 ∧ i = .int .i64 j ∧ Hid (MInv (w.alloc (.cells #[.slice ao n cap, .int .i64 0, .int .u64 0] 90)) w.heap.size ao n cap (12 + 5 * j) (2 + j) v wr)) (fun _ i _ => 6 - (intOf i).toNat)
    case atStart => exact ⟨0, by omega, rfl, HI⟩
    case round =>
      obtain ⟨j, hj, rfl, hI⟩ := hrel
      by_cases hlt : j < 6
      · obtain ⟨l', k', hk', hs', ho', hC', hg'⟩ := hI.out
        have HS' := Lib.hid hs'; have HO' := Lib.hid ho'; have HC' := Lib.hid hC'; have HG' := Lib.hid hg'
        have hl := hs'.1
        clear hs' ho' hC' hg' hI
        go_wp2_with fail
        refine (matcher81 _ _ ao n cap k' HC'.out hn (by omega)).mono ?_
        rintro e w4 ⟨q, x1, x2, hx1, hx2, rfl, hD⟩
        have HD := Lib.hid hD
        clear hD
        go_wp2_with (at_builtin; refine wpList_append_own _ rfl (.tmp 17) (.tmp 20) 50 rfl (w.alloc (.cells #[.slice ao n cap, .int .i64 0, .int .u64 0] 90)).heap.size 43 i0 _ 3 40 Tryd.underlying50 hi0 hz0 hz1 hz2 rfl (by decide) _ _ _ rfl ((own_other HO'.out (by simp) HD.out.2).alloc _) ⟨w4.heap.size, 0, none⟩ 1 1 [.int .i64 q, .string x1, .string x2] rfl rfl new_triple triple_one ?c3 ?c4 ?c5 ?_)
        case c3 => unfold maxLen; omega
        case c4 => omega
        case c5 => have h1 := HG'.out.size; have h2 := HD.out.2.size; simp at h1 ⊢; omega
        intro v' w5 hown' hgrow _
        rw [← hsz] at hown'
        have R := Lib.hid (minv_step (K := 12 + 5 * (j + 1)) HC0.out.lt HS'.out hx1 hx2 HO'.out HG'.out HD.out (by omega) hown' hgrow)
        clear hown' hgrow
        go_wp2
        go_roundw
        case rel => exact ⟨j + 1, by omega, by go_num, R⟩
        case measure => simp [intOf]; omega
      · obtain ⟨l', k', _, hs', ho', _, hg'⟩ := hI.out
        obtain ⟨vo, vc, rfl⟩ := own_slice ho'
        have HO' := Lib.hid (MRow.of_own ho').2
        have HB' := Lib.hid (below_cur hg')
        have HS' := Lib.hid hs'
        clear ho' hg' hs' hI
        go_wp2
        go_ret
        exact ⟨vo, vc, l', HS'.out.more (by omega), rfl, HO'.out, HB'.out⟩
end Go.Proofs.YtpbcgfgjdimpmaaDoor
