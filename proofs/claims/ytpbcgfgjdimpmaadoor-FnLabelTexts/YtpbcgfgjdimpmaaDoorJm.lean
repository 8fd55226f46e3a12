/- Plain mathematics for the laws FnMatches and FnLabelTexts: good labels without some names are good, a name left out is nothing, opposite kinds take the opposite. -/
import Derived.Test.YtpbcgfgjdimpmaaDoorAny
import Derived.Test.YtpbcgfgjdimpmaaDoorSpoil
import Derived.Test.YtpbcgfgjdimpmaaDoorHash
import Derived.Test.YtpbcgfgjdimpmaaDoorTexts
import Derived.Test.YtpbcgfgjdimpmaaDoorListm
import Derived.Deep.RegionHeld3
import Derived.Test.YtpbcgfgjdimpmaaDoorJr
namespace Go.Proofs.YtpbcgfgjdimpmaaDoor
open Go.RowKit Go.Deep

/-- A cursor behind a new block. -/
theorem cur_new1 (w : World) (o : Obj) (ao : Option Addr) (n cap : Nat) (h : BRow w w.heap.size ao n) : Cur ((w.alloc o).alloc (.cells #[.slice ao n cap, .int .i64 0, .int .u64 0] 90)) (w.heap.size + 1) ao n cap 0 := by
  have := cur_new _ ao n cap (h.below ((Below.refl w.heap.size w).alloc (Nat.le_refl _) o))
  rwa [show (w.alloc o).heap.size = w.heap.size + 1 by simp] at this
def LMDrawn (w : World) (e : Ending) (w' : World) : Prop := ∃ (ao : Option Addr) (c : Nat) (l : List Lab) (q : Int) (x y : ByteArray), Small 5 l ∧ x.size ≤ 20 ∧ y.size ≤ 20 ∧ e = .returned (.tuple #[.slice ao l.length c, matV q x y]) ∧ LRow w' w'.heap.size ao l ∧ Below w.heap.size w w'

theorem grown_sz {w w' : World} {B : Nat} (h : w.grownBy w' (some B)) : w.heap.size ≤ w'.heap.size := h.size

set_option maxHeartbeats 4000000 in
set_option maxRecDepth 100000 in
theorem draw31 (w : World) (ao : Option Addr) (n cap : Nat) (h : BRow w w.heap.size ao n) (hn : n ≤ 1048576) : Calls Tryd.prog 31 #[.slice ao n cap] w (LMDrawn w) := by
  have HB0 := Lib.hid ((Below.refl w.heap.size w).alloc (Nat.le_refl _) (.cells #[.int .i64 0, .string ⟨#[]⟩, .string ⟨#[]⟩] 43))
  have HC0 := Lib.hid (cur_new1 w (.cells #[.int .i64 0, .string ⟨#[]⟩, .string ⟨#[]⟩] 43) ao n cap h)
  have HR0 := Lib.hid ((Blk3.new w (.int .i64 0) (.string ⟨#[]⟩) (.string ⟨#[]⟩)).alloc (.cells #[.slice ao n cap, .int .i64 0, .int .u64 0] 90))
  have HBa := Lib.hid (HB0.out.alloc HB0.out.size (.cells #[.slice ao n cap, .int .i64 0, .int .u64 0] 90))
  have hsz : ((w.alloc (.cells #[.int .i64 0, .string ⟨#[]⟩, .string ⟨#[]⟩] 43)).alloc (.cells #[.slice ao n cap, .int .i64 0, .int .u64 0] 90)).heap.size = w.heap.size + 2 := by simp
  clear h
  go_enter Tryd.func31, Tryd.ntmps31
  go_wp2_with fail
  refine (any64 _ (w.heap.size + 1) ao n cap 0 HC0.out hn (by omega)).mono ?_
  rintro e w1 ⟨v, l, hs, rfl, ho, ⟨k1, hk1, hC1⟩, hg⟩
  obtain ⟨va, vc, rfl⟩ := own_slice ho
  have HS := Lib.hid hs
  have HO := Lib.hid ho
  have HC1 := Lib.hid hC1
  have HR1 := Lib.hid (HR0.out.kept hg (by omega))
  have HB1 := Lib.hid (HBa.out.grown hg HBa.out.size (fun k hk => by injection hk with hk; omega))
  clear hs ho hC1 hg
  go_wp2_with fail
  refine (matcher81 _ (w.heap.size + 1) ao n cap k1 HC1.out hn (by omega)).mono ?_
  rintro e w2 ⟨q, x, y, hx, hy, rfl, _, hg⟩
  obtain ⟨z0, z1, z2, f0, f1, f2⟩ := (HR1.out.kept hg (by omega)).cells
  have HB2 := Lib.hid (HB1.out.grown hg HB1.out.size (fun k hk => by injection hk with hk; omega))
  have HO2 := Lib.hid (own_other HO.out (by omega) hg)
  have HL2 := Lib.hid (LRow.of_own HO2.out).2
  clear hg
  go_wp2
  have hbs := HB2.out
  refine bodyPost_ret (v := .tuple #[.slice va l.length vc, matV q x y]) (by simp [results, Tryd.results31, go_sem, z0, z1, z2]) rfl ⟨va, vc, l, q, x, y, HS.out, hx, hy, rfl, ?_, ((hbs.setCell (Nat.le_refl _) _).setCell (Nat.le_refl _) _).setCell (Nat.le_refl _) _⟩
  intro hl
  obtain ⟨b, off, e, hbl, hc⟩ := HL2.out hl
  have hne : b ≠ w.heap.size := by
    subst e
    have := (HO2.out.lt b rfl).1
    omega
  refine ⟨b, off, e, by simpa using hbl, fun k hk => ?_⟩
  have := hc k hk
  have o0 : ∀ (W : World) (j i : Nat) (u : Value), (W.setCell ⟨w.heap.size, j, none⟩ u).cell? ⟨b, i, none⟩ = W.cell? ⟨b, i, none⟩ := fun W j i u => World.cell?_setCell_other _ _ _ _ (fun h => hne (by injection h with h; exact h.symm))
  simp only [o0]
  exact this

def LMsDrawn (w : World) (e : Ending) (w' : World) : Prop := ∃ (ao bo : Option Addr) (c d : Nat) (l : List Lab) (ms : List Mat), Small 5 l ∧ SmallM 2 ms ∧ e = .returned (.tuple #[.slice ao l.length c, .slice bo ms.length d]) ∧ LRow w' w'.heap.size ao l ∧ MRow w' w'.heap.size bo ms ∧ Below w.heap.size w w'

set_option maxHeartbeats 4000000 in
set_option maxRecDepth 100000 in
theorem draw35 (w : World) (ao : Option Addr) (n cap : Nat) (h : BRow w w.heap.size ao n) (hn : n ≤ 1048576) : Calls Tryd.prog 35 #[.slice ao n cap] w (LMsDrawn w) := by
  have HC0 := Lib.hid (cur_new w ao n cap h)
  clear h
  have hsz : w.heap.size < (w.alloc (.cells #[.slice ao n cap, .int .i64 0, .int .u64 0] 90)).heap.size := by simp
  have HZ := Lib.hid hsz
  clear hsz
  go_enter Tryd.func35, Tryd.ntmps35
  go_wp2_with fail
  refine (any64 _ _ ao n cap 0 HC0.out hn (by omega)).mono ?_
  rintro e w1 ⟨v, l, hs, rfl, ho, ⟨k1, hk1, hC1⟩, hg⟩
  obtain ⟨va, vc, rfl⟩ := own_slice ho
  have HS := Lib.hid hs
  have HO := Lib.hid ho
  have HC1 := Lib.hid hC1
  have HG := Lib.hid hg
  clear hs ho hC1 hg
  go_wp2_with fail
  refine (matchers87 _ _ ao n cap k1 HC1.out hn (by omega)).mono ?_
  rintro e w2 ⟨v2, ms, hs2, rfl, ho2, _, hg2⟩
  obtain ⟨vb, vd, rfl⟩ := own_slice ho2
  have HL2 := Lib.hid (LRow.of_own (own_other HO.out HZ.out hg2)).2
  have HM2 := Lib.hid (MRow.of_own ho2).2
  have HB2 := Lib.hid (below_cur (HG.out.trans hg2))
  have HS2 := Lib.hid hs2
  clear hs2 ho2 hg2
  go_wp2
  go_ret2
  exact ⟨va, vb, vc, vd, l, ms, HS.out, HS2.out, rfl, HL2.out, HM2.out, HB2.out⟩

def TTDrawn (w : World) (e : Ending) (w' : World) : Prop := ∃ x y : ByteArray, x.size ≤ 20 ∧ y.size ≤ 20 ∧ e = .returned (.tuple #[.string x, .string y]) ∧ Below w.heap.size w w'
set_option maxHeartbeats 4000000 in
set_option maxRecDepth 100000 in
theorem draw40 (w : World) (ao : Option Addr) (n cap : Nat) (h : BRow w w.heap.size ao n) (hn : n ≤ 1048576) : Calls Tryd.prog 40 #[.slice ao n cap] w (TTDrawn w) := by
  have H := Lib.hid (cur_new w ao n cap h)
  clear h
  go_enter Tryd.func40, Tryd.ntmps40
  go_wp2_with fail
  refine (of70 _ _ ao n cap 0 _ _ [⟨#[]⟩, ⟨#[42]⟩, ⟨#[97, 42]⟩, ⟨#[42, 97]⟩, ⟨#[97, 42, 98]⟩, ⟨#[42, 42]⟩, ⟨#[97, 42, 97, 42, 97]⟩, ⟨#[97, 98]⟩, ⟨#[42, 98, 42]⟩] (H.out.alloc _) hn (by omega) ⟨by decide, by decide, by decide⟩ ⟨w.heap.size + 1, rfl, by omega, fresh_texts1 w _ _ 9⟩).mono ?_
  rintro e w2 ⟨x, hx, rfl, ⟨k2, hk2, hC2⟩, hg⟩
  have HC2 := Lib.hid hC2
  have HG2 := Lib.hid ((World.grownBy_alloc _ _ _).trans hg)
  clear hC2 hg
  go_wp2_with fail
  refine (of70 _ _ ao n cap k2 _ _ [⟨#[]⟩, ⟨#[97]⟩, ⟨#[97, 98]⟩, ⟨#[97, 98, 97]⟩, ⟨#[97, 97, 97]⟩, ⟨#[98]⟩, ⟨#[97, 98, 97, 98]⟩, ⟨#[97, 32, 98]⟩] (HC2.out.alloc _) hn (by omega) ⟨by decide, by decide, by decide⟩ ⟨_, rfl, HC2.out.lt, fresh_texts w2 _ 9⟩).mono ?_
  rintro e w3 ⟨y, hy, rfl, _, hg⟩
  have HB := Lib.hid (below_cur ((HG2.out.trans (World.grownBy_alloc _ _ _)).trans hg))
  clear hg
  go_wp2
  go_ret2
  exact ⟨x, y, hx, hy, rfl, HB.out⟩
end Go.Proofs.YtpbcgfgjdimpmaaDoor
namespace Go.Proofs.YtpbcgfgjdimpmaaDoor
open Go.RowKit Go.Deep

/-- Some labels in new memory. -/
def LDrawn (m : Nat) (w : World) (e : Ending) (w' : World) : Prop := ∃ (ao : Option Addr) (c : Nat) (l : List Lab), Small m l ∧ e = .returned (.slice ao l.length c) ∧ LRow w' w'.heap.size ao l ∧ Below w.heap.size w w'

theorem draw63 (w : World) (ao : Option Addr) (n cap : Nat) (h : BRow w w.heap.size ao n) (hn : n ≤ 1048576) : Calls Tryd.prog 63 #[.slice ao n cap] w (LDrawn 5 w) := by
  have H := Lib.hid (cur_new w ao n cap h)
  clear h
  go_enter Tryd.func63, Tryd.ntmps63
  go_wp2_with fail
  refine (any64 _ _ ao n cap 0 H.out hn (by omega)).mono ?_
  rintro e w2 ⟨v, l, hs, rfl, ho, hD⟩
  obtain ⟨va, vc, rfl⟩ := own_slice ho
  have HB := Lib.hid (below_cur hD.2)
  have HO := Lib.hid (LRow.of_own ho).2
  have HS := Lib.hid hs
  clear hD ho hs
  go_wp2
  go_ret
  exact ⟨va, vc, l, HS.out, rfl, HO.out, HB.out⟩
theorem draw15 (w : World) (ao : Option Addr) (n cap : Nat) (h : BRow w w.heap.size ao n) (hn : n ≤ 1048576) : Calls Tryd.prog 15 #[.slice ao n cap] w (LDrawn 5 w) := by
  have H := Lib.hid h
  clear h
  go_enter Tryd.func15, Tryd.ntmps15
  go_wp2_with fail
  refine (draw63 w ao n cap H.out hn).mono ?_
  rintro e w2 ⟨va, vc, l, hs, rfl, hl, hb⟩
  have HB := Lib.hid hb
  have HO := Lib.hid hl
  have HS := Lib.hid hs
  clear hb hl hs
  go_wp2
  go_ret
  exact ⟨va, vc, l, HS.out, rfl, HO.out, HB.out⟩

theorem txtF_size (l : List Lab) : (txtF l).size ≤ 180 := by
  cases hg : goodB l
  · rw [txtF_no hg]; decide
  · have := join_len hg
    rw [txtF_yes hg, size_len]
    simp [textS, textL, headT]
    omega

set_option maxHeartbeats 2000000 in
set_option maxRecDepth 100000 in
theorem draw22 (w : World) (ao : Option Addr) (n cap : Nat) (h : BRow w w.heap.size ao n) (hn : n ≤ 1048576) : Calls Tryd.prog 22 #[.slice ao n cap] w (TDrawn 190 w) := by
  have HC0 := Lib.hid (cur_new w ao n cap h)
  clear h
  go_enter Tryd.func22, Tryd.ntmps22
  go_wp2_with fail
  refine (any64 _ _ ao n cap 0 HC0.out hn (by omega)).mono ?_
  rintro e w1 ⟨v, l, hs, rfl, ho, ⟨k1, hk1, hC1⟩, hg⟩
  obtain ⟨va, vc, rfl⟩ := own_slice ho
  have hF := hs.fit (by omega)
  have HO := Lib.hid (LRow.of_own ho).2
  have HC1 := Lib.hid hC1
  have HB1 := Lib.hid (below_cur hg)
  clear hs ho hC1 hg
  go_wp2_with fail
  refine (text31 va vc l hF _ HO.out).mono ?_
  rintro e w2 ⟨rfl, hb⟩
  have HC2 := Lib.hid (HC1.out.below hb)
  have HB2 := Lib.hid (HB1.out.trans (hb.mono HB1.out.size))
  clear hb
  have hz := txtF_size l
  generalize txtF l = s at hz ⊢
  generalize goodB l = ok
  go_wp2_with fail
  refine (one54 _ _ ao n cap k1 3 HC2.out hn (by omega) (by decide) (by decide)).mono ?_
  rintro e w3 ⟨b, rfl, ⟨k3, hk3, hC3⟩, hg3⟩
  have HC3 := Lib.hid hC3
  have HB3 := Lib.hid (HB2.out.grown hg3 HB2.out.size (fun k hk => by injection hk with hk; omega))
  clear hC3 hg3
  cases b with
  | false =>
    go_wp2
    go_ret
    exact ⟨s, by omega, rfl, HB3.out⟩
  | true =>
    go_wp2_with fail
    refine (spoilt71 s ⟨#[123, 34, 44, 61, 125, 97]⟩ (by omega) (by decide) (by decide) _ _ ao n cap k3 HC3.out hn (by omega)).mono ?_
    rintro e w4 ⟨x4, hx4, rfl, _, hg4⟩
    have HB4 := Lib.hid (HB3.out.grown hg4 HB3.out.size (fun k hk => by injection hk with hk; omega))
    clear hg4
    go_wp2
    go_ret
    exact ⟨x4, by omega, rfl, HB4.out⟩

def LTDrawn (w : World) (e : Ending) (w' : World) : Prop := ∃ (ao : Option Addr) (c : Nat) (l : List Lab) (x : ByteArray), Small 5 l ∧ e = .returned (.tuple #[.slice ao l.length c, .string x]) ∧ LRow w' w'.heap.size ao l ∧ Below w.heap.size w w'

set_option maxHeartbeats 4000000 in
set_option maxRecDepth 100000 in
theorem draw24 (w : World) (ao : Option Addr) (n cap : Nat) (h : BRow w w.heap.size ao n) (hn : n ≤ 1048576) : Calls Tryd.prog 24 #[.slice ao n cap] w (LTDrawn w) := by
  have HC0 := Lib.hid (cur_new w ao n cap h)
  clear h
  have hsz : w.heap.size < (w.alloc (.cells #[.slice ao n cap, .int .i64 0, .int .u64 0] 90)).heap.size := by simp
  have HZ := Lib.hid hsz
  clear hsz
  go_enter Tryd.func24, Tryd.ntmps24
  go_wp2_with fail
  refine (any64 _ _ ao n cap 0 HC0.out hn (by omega)).mono ?_
  rintro e w1 ⟨v, l, hs, rfl, ho, ⟨k1, hk1, hC1⟩, hg⟩
  obtain ⟨va, vc, rfl⟩ := own_slice ho
  have HS := Lib.hid hs
  have HO := Lib.hid ho
  have HC1 := Lib.hid hC1
  have HG := Lib.hid hg
  clear hs ho hC1 hg
  go_wp2_with fail
  refine (of70 _ _ ao n cap k1 _ _ [⟨#[106, 111, 98]⟩, ⟨#[117, 112]⟩, ⟨#[122, 111, 110, 101]⟩, ⟨#[110, 111, 110, 101]⟩, ⟨#[]⟩] (HC1.out.alloc _) hn (by omega) ⟨by decide, by decide, by decide⟩ ⟨_, rfl, HC1.out.lt, fresh_texts w1 _ 9⟩).mono ?_
  rintro e w2 ⟨x, hx, rfl, _, hg⟩
  have hg2 := (World.grownBy_alloc _ _ _).trans hg
  have HL2 := Lib.hid (LRow.of_own (own_other HO.out HZ.out hg2)).2
  have HB2 := Lib.hid (below_cur (HG.out.trans hg2))
  clear hg hg2
  go_wp2
  go_ret2
  exact ⟨va, vc, l, x, HS.out, rfl, HL2.out, HB2.out⟩

/-- A few short texts. -/
def FewT (m : Nat) (l : List ByteArray) : Prop := l.length ≤ m ∧ ∀ x ∈ l, x.size ≤ 20
def TInv (w : World) (B : Nat) (ao : Option Addr) (n cap K M : Nat) (v : Value) (wr : World) : Prop :=
  ∃ (l : List ByteArray) (k' : Nat), k' ≤ K ∧ FewT M l ∧ wr.ownsRow w.heap.size 9 1 v l.length (l.map Value.string) ∧ Cur wr B ao n cap k' ∧ w.grownBy wr (some B)
theorem tinv_step {w wr w1 w2 : World} {B : Nat} {ao : Option Addr} {n cap K k1 j M : Nat} {v v' : Value} {x : ByteArray} {l : List ByteArray} {o : Obj} (hB : B < w.heap.size) (hs : FewT M l) (h1 : x.size ≤ 20)
    (hown : wr.ownsRow w.heap.size 9 1 v l.length (l.map Value.string)) (hg0 : w.grownBy wr (some B)) (hD : Drawn wr w1 B ao n cap k1 j) (hk : k1 + j ≤ K)
    (hown' : w2.ownsRow w.heap.size 9 1 v' (l.length + 1) (l.map Value.string ++ [.string x])) (hgrow : (w1.alloc o).grownBy w2 v.ownBlock) : TInv w B ao n cap K (M + 1) v' w2 := by
  obtain ⟨⟨k2, hk2, hC⟩, hg1⟩ := hD
  have hge : ∀ g, v.ownBlock = some g → w.heap.size ≤ g := fun g hg => (hown.lt g hg).1
  refine ⟨l ++ [x], k2, by omega, ⟨by have := hs.1; simp; omega, fun y hy => ?_⟩, by rw [List.map_append, List.length_append]; exact hown', (hC.alloc o).kept hgrow (fun g hg => by have := hge g hg; omega), ?_⟩
  · rcases List.mem_append.1 hy with hy | hy
    · exact hs.2 y hy
    · obtain rfl := List.mem_singleton.1 hy; exact h1
  · exact ((hg0.trans hg1).trans (World.grownBy_alloc _ _ _)).andThen hgrow (fun g hg => .inl (hge g hg))

def LNDrawn (w : World) (e : Ending) (w' : World) : Prop := ∃ (ao bo : Option Addr) (c d : Nat) (l : List Lab) (ns : List ByteArray), Small 5 l ∧ ns.length ≤ 3 ∧ e = .returned (.tuple #[.slice ao l.length c, .slice bo ns.length d]) ∧ LRow w' w'.heap.size ao l ∧ TRow w' w'.heap.size bo ns ∧ Below w.heap.size w w'

set_option maxHeartbeats 4000000 in
set_option maxRecDepth 100000 in
theorem draw27 (w : World) (ao : Option Addr) (n cap : Nat) (h : BRow w w.heap.size ao n) (hn : n ≤ 1048576) : Calls Tryd.prog 27 #[.slice ao n cap] w (LNDrawn w) := by
  have HC0 := Lib.hid (cur_new w ao n cap h)
  have HBC := Lib.hid (fun w' => below_cur (w := w) (w' := w') (o := .cells #[.slice ao n cap, .int .i64 0, .int .u64 0] 90))
  have HZ : Hid (w.heap.size < (w.alloc (.cells #[.slice ao n cap, .int .i64 0, .int .u64 0] 90)).heap.size) := Lib.hid (by simp)
  clear h
  obtain ⟨i0, hi0, hz0, hz1, hz2⟩ := info_parts Tryd.info9
  go_enter Tryd.func27, Tryd.ntmps27
  go_upto_region 3 with fail
  generalize w.alloc (.cells #[.slice ao n cap, .int .i64 0, .int .u64 0] 90) = w0 at HC0 HBC HZ ⊢
  obtain ⟨B, hB⟩ : ∃ B, B = w.heap.size := ⟨_, rfl⟩
  rw [← hB] at HC0 HZ ⊢
  have HBe := Lib.hid hB
  clear hB
  go_wp2_with fail
  refine (pick51 w0 B ao n cap 0 4 HC0.out hn (by omega) (by decide) (by decide)).mono ?_
  rintro e w1 ⟨r, hr0, hr1, rfl, hD⟩
  obtain ⟨j0, rfl⟩ := Int.eq_ofNat_of_zero_le hr0
  have hj0 : j0 ≤ 3 := by omega
  have HI : Hid (TInv w0 B ao n cap (4 - j0) (3 - j0) (.slice none 0 0) w1) := by
    obtain ⟨⟨k1, hk1, hC1⟩, hG1⟩ := hD
    exact Lib.hid ⟨[], k1, by omega, ⟨by simp, by simp⟩, World.ownsRow_nil _ _ _ _, hC1, hG1⟩
  clear hD hr0 hr1
  go_wp2_with fail
  go_loopw [5, 6] (fun v i wr => ∃ j : Nat, j ≤ 3 ∧ i = .int .i64 j ∧ Hid (TInv w0 B ao n cap (4 - j) (3 - j) v wr)) (fun _ i _ => (intOf i).toNat)
  case atStart => exact ⟨j0, hj0, rfl, HI⟩
  case round =>
    obtain ⟨j, hj3, rfl, hI⟩ := hrel
    cases j with
    | zero =>
      obtain ⟨ns, k', hk', hs, hown, hC, hg⟩ := hI.out
      obtain ⟨vb, vd, rfl⟩ := own_slice hown
      have hns := hs.1
      have HO := Lib.hid hown; have HC := Lib.hid hC; have HG := Lib.hid hg
      clear hs hown hC hg hI
      go_wp2_with fail
      refine (any64 _ B ao n cap k' HC.out hn (by omega)).mono ?_
      rintro e w3 ⟨v3, l, hs3, rfl, ho3, hD3⟩
      obtain ⟨va, vc, rfl⟩ := own_slice ho3
      have HE : Hid (LNDrawn w (.returned (.tuple #[.slice va l.length vc, .slice vb ns.length vd])) w3) := Lib.hid ⟨va, vb, vc, vd, l, ns, hs3, by omega, rfl, (LRow.of_own ho3).2, (TRow.of_own (own_other HO.out HZ.out hD3.2)).2, HBC.out _ (HBe.out ▸ HG.out.trans hD3.2)⟩
      clear hs3 ho3 hD3
      go_wp2
      go_ret2
      exact HE.out
    | succ j =>
      obtain ⟨l, k', hk', hs, hown, hC, hg⟩ := hI.out
      have HS := Lib.hid hs; have HO := Lib.hid hown; have HC := Lib.hid hC; have HG := Lib.hid hg
      have hl := hs.1
      clear hs hown hC hg hI
      go_wp2_with fail
      refine (name52 _ B ao n cap k' HC.out hn (by omega)).mono ?_
      rintro e w2 ⟨x1, hx1, rfl, hD⟩
      have HD := Lib.hid hD
      clear hD
      go_wp2_with (at_builtin; refine wpList_append_own _ rfl (.tmp 16) (.tmp 19) 37 rfl w0.heap.size 9 i0 _ 1 16 Tryd.underlying37 hi0 hz0 hz1 hz2 rfl (by decide) _ _ _ rfl ((own_other HO.out HZ.out HD.out.2).alloc _) ⟨w2.heap.size, 0, none⟩ 1 1 [.string x1] rfl rfl new_one one_str ?c3 ?c4 ?c5 ?_)
      case c3 => unfold maxLen; omega
      case c4 => omega
      case c5 => have h1 := HG.out.size; have h2 := HD.out.2.size; simp; omega
      intro v' w4 hown' hgrow _
      have R := Lib.hid (tinv_step (K := 4 - j) HC0.out.lt HS.out hx1 HO.out HG.out HD.out (by omega) hown' hgrow)
      have e1 : 3 - (j + 1) + 1 = 3 - j := by omega
      rw [e1] at R
      clear hown' hgrow
      go_wp2
      go_roundw
      case rel => exact ⟨j, by omega, by go_num, R⟩
      case measure => simp [intOf]
end Go.Proofs.YtpbcgfgjdimpmaaDoor
namespace Go.Proofs.YtpbcgfgjdimpmaaDoor
open Go.RowKit Go.Deep

def goodMs (l : List Mat) : Bool := decide (l.length ≤ 6) && l.all matB
theorem goodMs_long {l : List Mat} (h : 6 < l.length) : goodMs l = false := by simp [goodMs]; omega
def mAll (p : Mat → Bool) (l : List Mat) (k : Nat) : Prop := l.all p = (l.drop k).all p
theorem mAll_succ {p : Mat → Bool} {l : List Mat} {k : Nat} (h : mAll p l k) (hk : k < l.length) (hx : p l[k] = true) : mAll p l (k + 1) := by
  unfold mAll at h ⊢
  rw [h, List.drop_eq_getElem_cons hk, List.all_cons, hx, Bool.true_and]
theorem mAll_no {p : Mat → Bool} {l : List Mat} {k : Nat} (h : mAll p l k) (hk : k < l.length) (hx : p l[k] = false) : l.all p = false := by
  unfold mAll at h
  rw [h, List.drop_eq_getElem_cons hk, List.all_cons, hx, Bool.false_and]
theorem mAll_end {p : Mat → Bool} {l : List Mat} (h : mAll p l l.length) : l.all p = true := by
  unfold mAll at h
  rw [h, List.drop_length]; rfl
theorem goodMs_no {l : List Mat} (h : l.all matB = false) : goodMs l = false := by simp only [goodMs, h, Bool.and_false]

set_option maxHeartbeats 2000000 in
set_option maxRecDepth 100000 in
theorem good38 (ao : Option Addr) (cap : Nat) (l : List Mat) (hn : l.length ≤ 1048576) (w : World) (hT : Tabs w) (h : MRow w w.heap.size ao l) :
    Calls Tryd.prog 38 #[.slice ao l.length cap] w fun e w' => e = .returned (.bool (goodMs l)) ∧ Below w.heap.size w w' := by
  have H := Lib.hid h
  clear h
  by_cases h6 : 6 < l.length
  · have HG := Lib.hid (goodMs_long h6)
    go_enter Tryd.func38, Tryd.ntmps38
    go_wp2
    go_ret
    exact ⟨ret_bool HG.out.symm, Below.refl _ _⟩
  have hd : decide (6 < (l.length : Int)) = false := by simp; omega
  go_enter Tryd.func38, Tryd.ntmps38
  go_wp2
  go_loopw [10] (fun i wr => ∃ k : Nat, k ≤ l.length ∧ i = .int .i64 k ∧ Hid (mAll matB l k) ∧ Hid (Below w.heap.size w wr)) (fun i _ => l.length - (intOf i).toNat)
  case atStart => exact ⟨0, Nat.zero_le _, rfl, rfl, Below.refl _ _⟩
  case round =>
    obtain ⟨k, hk, rfl, hG, hb⟩ := hrel
    by_cases hlt : k < l.length
    · obtain ⟨b, off, hao, hbl, hc⟩ := H.out (by omega)
      subst hao
      have c0 := (hb.out.cell (p := ⟨b, off + k * 3, none⟩) hbl).trans (hc k hlt).1
      have c1 := (hb.out.cell (p := ⟨b, off + k * 3 + 1, none⟩) hbl).trans (hc k hlt).2.1
      have c2 := (hb.out.cell (p := ⟨b, off + k * 3 + 2, none⟩) hbl).trans (hc k hlt).2.2
      have HS := Lib.hid (fun hx => mAll_succ hG.out hlt hx)
      have HN := Lib.hid (fun hx => goodMs_no (mAll_no hG.out hlt hx))
      have HB1 := Lib.hid (hb.out.alloc (hb.out.size) (.cells #[.int .i64 l[k].1, .string l[k].2.1, .string l[k].2.2] 43))
      clear hc
      generalize l[k] = x at c0 c1 c2 HS HN HB1
      obtain ⟨x0, x1, x2⟩ := x
      go_wp2_with fail
      refine (good82 x0 x1 x2 _ (hT.below' HB1.out)).mono ?_
      rintro e w1 ⟨rfl, hb1⟩
      have HW1 := Lib.hid (HB1.out.trans (hb1.mono HB1.out.size))
      clear hb1
      by_cases hg : matB (x0, x1, x2) = true
      · have HG2 := Lib.hid (HS.out hg)
        go_wp2
        go_roundw
        case rel => exact ⟨k + 1, by omega, by go_num, HG2, HW1⟩
        case measure => simp [intOf]; omega
      · have hg : matB (x0, x1, x2) = false := by simpa using hg
        have HF := Lib.hid (HN.out hg)
        go_wp2
        go_ret
        exact ⟨ret_bool HF.out.symm, HW1.out⟩
    · obtain rfl : k = l.length := by omega
      have HF := Lib.hid (show goodMs l = true by simp only [goodMs, mAll_end hG.out, Bool.and_true, decide_eq_true_eq]; omega)
      go_wp2
      go_ret
      exact ⟨ret_bool HF.out.symm, hb.out⟩

set_option maxHeartbeats 2000000 in
set_option maxRecDepth 100000 in
theorem good88 (ao : Option Addr) (cap : Nat) (l : List Mat) (hF : FitM l) (w : World) (h : MRow w w.heap.size ao l) :
    Calls Tryd.prog 88 #[.slice ao l.length cap] w fun e w' => e = .returned (.bool (goodMs l)) ∧ Below w.heap.size w w' := by
  have H := Lib.hid h
  clear h
  have hn := hF.1
  go_enter Tryd.func88, Tryd.ntmps88
  go_wp2
  go_loopw [7] (fun i wr => ∃ k : Nat, k ≤ l.length ∧ i = .int .i64 k ∧ Hid (mAll matB l k) ∧ Hid (Below w.heap.size w wr)) (fun i _ => l.length - (intOf i).toNat)
  case atStart => exact ⟨0, Nat.zero_le _, rfl, rfl, Below.refl _ _⟩
  case round =>
    obtain ⟨k, hk, rfl, hG, hb⟩ := hrel
    by_cases hlt : k < l.length
    · obtain ⟨b, off, hao, hbl, hc⟩ := H.out (by omega)
      subst hao
      have c0 := (hb.out.cell (p := ⟨b, off + k * 3, none⟩) hbl).trans (hc k hlt).1
      have c1 := (hb.out.cell (p := ⟨b, off + k * 3 + 1, none⟩) hbl).trans (hc k hlt).2.1
      have c2 := (hb.out.cell (p := ⟨b, off + k * 3 + 2, none⟩) hbl).trans (hc k hlt).2.2
      have hz := hF.at hlt
      have HS := Lib.hid (fun hx => mAll_succ hG.out hlt hx)
      have HN := Lib.hid (fun hx => goodMs_no (mAll_no hG.out hlt hx))
      have HB1 := Lib.hid (hb.out.alloc (hb.out.size) (.cells #[.int .i64 l[k].1, .string l[k].2.1, .string l[k].2.2] 43))
      clear hc
      generalize l[k] = x at c0 c1 c2 HS HN HB1 hz
      obtain ⟨x0, x1, x2⟩ := x
      go_wp2_with fail
      refine (good84 x0 x1 x2 hz.1 hz.2 _).mono ?_
      rintro e w1 ⟨rfl, hb1⟩
      have HW1 := Lib.hid (HB1.out.trans (hb1.mono HB1.out.size))
      clear hb1
      by_cases hg : matB (x0, x1, x2) = true
      · have HG2 := Lib.hid (HS.out hg)
        go_wp2
        go_roundw
        case rel => exact ⟨k + 1, by omega, by go_num, HG2, HW1⟩
        case measure => simp [intOf]; omega
      · have hg : matB (x0, x1, x2) = false := by simpa using hg
        have HF := Lib.hid (HN.out hg)
        go_wp2
        go_ret
        exact ⟨ret_bool HF.out.symm, HW1.out⟩
    · obtain rfl : k = l.length := by omega
      have HF := Lib.hid (show goodMs l = decide ((l.length : Int) ≤ 6) by simp only [goodMs, mAll_end hG.out, Bool.and_true]; rw [Bool.eq_iff_iff]; simp; omega)
      go_wp2
      go_ret
      exact ⟨ret_bool HF.out.symm, hb.out⟩

theorem good39 (ao : Option Addr) (cap : Nat) (l : List Mat) (hF : FitM l) (w : World) (h : MRow w w.heap.size ao l) :
    Calls Tryd.prog 39 #[.slice ao l.length cap] w fun e w' => e = .returned (.bool (goodMs l)) ∧ Below w.heap.size w w' := by
  have H := Lib.hid h
  clear h
  go_enter Tryd.func39, Tryd.ntmps39
  go_wp2_with fail
  refine (good88 ao cap l hF _ H.out).mono ?_
  rintro e w1 ⟨rfl, hb⟩
  have HB := Lib.hid hb
  clear hb
  go_wp2
  go_ret
  exact ⟨rfl, HB.out⟩
end Go.Proofs.YtpbcgfgjdimpmaaDoor
namespace Go.Proofs.YtpbcgfgjdimpmaaDoor
open Go.RowKit Go.Deep

def matchB (l : List Lab) (k : Int) (n s : ByteArray) : Bool := goodB l && matB (k, n, s)
def matchV (l : List Lab) (k : Int) (n s : ByteArray) : Bool := goodB l && (matB (k, n, s) && takesB k s (isL l n))
theorem matchV_no {l : List Lab} {k : Int} {n s : ByteArray} (h : goodB l = false) : matchV l k n s = false ∧ matchB l k n s = false := by simp [matchV, matchB, h]
theorem matchV_no2 {l : List Lab} {k : Int} {n s : ByteArray} (h : matB (k, n, s) = false) : matchV l k n s = false ∧ matchB l k n s = false := by simp [matchV, matchB, h]
theorem matchV_yes {l : List Lab} {k : Int} {n s : ByteArray} (h : goodB l = true) (h2 : matB (k, n, s) = true) : matchV l k n s = takesB k s (isL l n) ∧ matchB l k n s = true := by simp [matchV, matchB, h, h2]

set_option maxHeartbeats 4000000 in
set_option maxRecDepth 100000 in
theorem matches32 (ao : Option Addr) (cap : Nat) (l : List Lab) (hF : Fit l) (k : Int) (n s : ByteArray) (hs : s.size ≤ 1048576) (w : World) (hT : Tabs w) (hM : MaxC w) (h : LRow w w.heap.size ao l) :
    Calls Tryd.prog 32 #[.slice ao l.length cap, matV k n s] w fun e w' => e = .returned (.tuple #[.bool (matchV l k n s), .bool (matchB l k n s)]) ∧ Below w.heap.size w w' := by
  have H := Lib.hid h
  clear h
  have hn := hF.1
  have HB := Lib.hid ((Below.refl w.heap.size w).alloc (Nat.le_refl _) (.cells #[.int .i64 k, .string n, .string s] 43))
  go_enter Tryd.func32, Tryd.ntmps32
  go_wp2_with fail
  refine (good19 ao cap l hn _ (hT.below' HB.out) (H.out.after HB.out)).mono ?_
  rintro e w1 ⟨rfl, hb⟩
  have HB1 := Lib.hid (HB.out.trans (hb.mono HB.out.size))
  have HV1 := Lib.hid hb
  obtain ⟨k1, k2, k3⟩ := box3_cells hb
  clear hb
  by_cases hg : goodB l = true
  case neg =>
    have hg : goodB l = false := by simpa using hg
    have HF := Lib.hid (matchV_no (k := k) (n := n) (s := s) hg)
    go_wp2
    go_ret2
    exact ⟨ret_bb HF.out.1.symm HF.out.2.symm, HB1.out⟩
  go_wp2_with fail
  refine (good82 k n s _ (hT.below' HB1.out)).mono ?_
  rintro e w2 ⟨rfl, hb⟩
  have HB2 := Lib.hid (HB1.out.trans (hb.mono HB1.out.size))
  have HV2 := Lib.hid (HV1.out.trans (hb.mono HV1.out.size))
  clear hb k1 k2 k3
  obtain ⟨k1, k2, k3⟩ := box3_cells HV2.out
  by_cases hm : matB (k, n, s) = true
  case neg =>
    have hm : matB (k, n, s) = false := by simpa using hm
    have HF := Lib.hid (matchV_no2 (l := l) hm)
    go_wp2
    go_ret2
    exact ⟨ret_bb HF.out.1.symm HF.out.2.symm, HB2.out⟩
  have HF := Lib.hid (matchV_yes hg hm)
  go_wp2_with fail
  refine (match83 ao cap l hF hg k n s (mat_kind hm) hs _ (hT.below' HB2.out) (hM.below' HB2.out) (H.out.after HB2.out)).mono ?_
  rintro e w3 ⟨rfl, hb⟩
  have HB3 := Lib.hid (HB2.out.trans (hb.mono HB2.out.size))
  clear hb
  go_wp2
  go_ret2
  exact ⟨ret_bb HF.out.1.symm HF.out.2.symm, HB3.out⟩

set_option maxHeartbeats 4000000 in
set_option maxRecDepth 100000 in
theorem matches33 (ao : Option Addr) (cap : Nat) (l : List Lab) (hF : Fit l) (k : Int) (n s : ByteArray) (hz : n.size ≤ 1048576) (hs : s.size ≤ 1048576) (w : World) (h : LRow w w.heap.size ao l) :
    Calls Tryd.prog 33 #[.slice ao l.length cap, matV k n s] w fun e w' => e = .returned (.tuple #[.bool (matchV l k n s), .bool (matchB l k n s)]) ∧ Below w.heap.size w w' := by
  have H := Lib.hid h
  clear h
  have hn := hF.1
  have ht : (isL l n).size ≤ 1048576 := isL_size (fun x hx => (hF.2 x hx).2)
  have HB := Lib.hid ((Below.refl w.heap.size w).alloc (Nat.le_refl _) (.cells #[.int .i64 k, .string n, .string s] 43))
  go_enter Tryd.func33, Tryd.ntmps33
  go_wp2_with fail
  refine (good68 ao cap l hF _ (H.out.after HB.out)).mono ?_
  rintro e w1 ⟨rfl, hb⟩
  have HB1 := Lib.hid (HB.out.trans (hb.mono HB.out.size))
  have HV1 := Lib.hid hb
  obtain ⟨k1, k2, k3⟩ := box3_cells hb
  clear hb
  by_cases hg : goodB l = true
  case neg =>
    have hg : goodB l = false := by simpa using hg
    have HF := Lib.hid (matchV_no (k := k) (n := n) (s := s) hg)
    go_wp2
    go_ret2
    exact ⟨ret_bb HF.out.1.symm HF.out.2.symm, HB1.out⟩
  go_wp2_with fail
  refine (good84 k n s hz hs _).mono ?_
  rintro e w2 ⟨rfl, hb⟩
  have HB2 := Lib.hid (HB1.out.trans (hb.mono HB1.out.size))
  have HV2 := Lib.hid (HV1.out.trans (hb.mono HV1.out.size))
  clear hb k1 k2 k3
  obtain ⟨k1, k2, k3⟩ := box3_cells HV2.out
  by_cases hm : matB (k, n, s) = true
  case neg =>
    have hm : matB (k, n, s) = false := by simpa using hm
    have HF := Lib.hid (matchV_no2 (l := l) hm)
    go_wp2
    go_ret2
    exact ⟨ret_bb HF.out.1.symm HF.out.2.symm, HB2.out⟩
  have HF := Lib.hid (matchV_yes hg hm)
  have HK := Lib.hid (mat_kind hm)
  have HL2 := Lib.hid (H.out.after HB2.out)
  have hlt : w.heap.size < w2.heap.size := by have := HV2.out.size; simp at this; omega
  go_wp2_with fail
  clear hg hm
  go_region_held3 (fun w' => w'.cell? ⟨w.heap.size, 0, none⟩ = some (.int .i64 k) ∧ w'.cell? ⟨w.heap.size, 1, none⟩ = some (.string n) ∧ w'.cell? ⟨w.heap.size, 2, none⟩ = some (.string s)) (exact ⟨by assumption, by assumption, by assumption⟩) (first | (go_at_call 75; refine (is81 ao cap l hn n _ (HL2.out.drewN 1)).mono ?_; rintro e w3 ⟨rfl, hb3⟩; have k1' := (hb3.cell (p := ⟨w.heap.size, 0, none⟩) hlt).trans k1; have k2' := (hb3.cell (p := ⟨w.heap.size, 1, none⟩) hlt).trans k2; have k3' := (hb3.cell (p := ⟨w.heap.size, 2, none⟩) hlt).trans k3; have hlt3 : w.heap.size < w3.heap.size := Nat.lt_of_lt_of_le hlt hb3.size) | (go_at_call 85; refine (match85 k n s (isL l n) HK.out hs ht _).mono ?_; rintro e w4 ⟨rfl, hb4⟩; have k1'' := (hb4.cell (p := ⟨w.heap.size, 0, none⟩) hlt3).trans k1'; have k2'' := (hb4.cell (p := ⟨w.heap.size, 1, none⟩) hlt3).trans k2'; have k3'' := (hb4.cell (p := ⟨w.heap.size, 2, none⟩) hlt3).trans k3'))
  have HB4 := Lib.hid ((below_drewN HB2.out 1).trans ((hb3.trans (hb4.mono hb3.size)).mono HB2.out.size))
  clear hb3 hb4
  go_wp2
  go_ret2
  exact ⟨ret_bb HF.out.1.symm HF.out.2.symm, HB4.out⟩

def matchOne (l : List Lab) (x : Mat) : Bool := takesB x.1 x.2.2 (isL l x.2.1)
def allB2 (l : List Lab) (ms : List Mat) : Bool := goodB l && goodMs ms
def allV2 (l : List Lab) (ms : List Mat) : Bool := goodB l && (goodMs ms && ms.all (matchOne l))
theorem allV_no {l : List Lab} {ms : List Mat} (h : goodB l = false) : allV2 l ms = false ∧ allB2 l ms = false := by simp [allV2, allB2, h]
theorem allV_no2 {l : List Lab} {ms : List Mat} (h : goodMs ms = false) : allV2 l ms = false ∧ allB2 l ms = false := by simp [allV2, allB2, h]
theorem allV_yes {l : List Lab} {ms : List Mat} (h : goodB l = true) (h2 : goodMs ms = true) : allV2 l ms = ms.all (matchOne l) ∧ allB2 l ms = true := by simp [allV2, allB2, h, h2]
theorem goodMs_kind {ms : List Mat} (h : goodMs ms = true) : ∀ k (hk : k < ms.length), kindB (ms[k]'hk).1 = true := by
  intro k hk
  unfold goodMs at h
  simp only [Bool.and_eq_true, List.all_eq_true] at h
  have := h.2 _ (List.getElem_mem hk)
  unfold matB at this
  simp only [Bool.and_eq_true] at this
  exact this.1

set_option maxHeartbeats 4000000 in
set_option maxRecDepth 100000 in
theorem all36 (ao bo : Option Addr) (cap dap : Nat) (l : List Lab) (hF : Fit l) (ms : List Mat) (hFM : FitM ms) (w : World) (hT : Tabs w) (hM : MaxC w) (h : LRow w w.heap.size ao l) (hm : MRow w w.heap.size bo ms) :
    Calls Tryd.prog 36 #[.slice ao l.length cap, .slice bo ms.length dap] w fun e w' => e = .returned (.tuple #[.bool (allV2 l ms), .bool (allB2 l ms)]) ∧ Below w.heap.size w w' := by
  have H := Lib.hid h
  have HMr := Lib.hid hm
  clear h hm
  have hn := hF.1
  have hn2 := hFM.1
  go_enter Tryd.func36, Tryd.ntmps36
  go_wp2_with fail
  refine (good19 ao cap l hn _ hT H.out).mono ?_
  rintro e w1 ⟨rfl, hb⟩
  have HB1 := Lib.hid hb
  clear hb
  by_cases hg : goodB l = true
  case neg =>
    have hg : goodB l = false := by simpa using hg
    have HF := Lib.hid (allV_no (ms := ms) hg)
    go_wp2
    go_ret2
    exact ⟨ret_bb HF.out.1.symm HF.out.2.symm, HB1.out⟩
  go_wp2_with fail
  refine (good38 bo dap ms hn2 _ (hT.below' HB1.out) (HMr.out.after HB1.out)).mono ?_
  rintro e w2 ⟨rfl, hb⟩
  have HB2 := Lib.hid (HB1.out.trans (hb.mono HB1.out.size))
  clear hb
  by_cases hgm : goodMs ms = true
  case neg =>
    have hgm : goodMs ms = false := by simpa using hgm
    have HF := Lib.hid (allV_no2 (l := l) hgm)
    go_wp2
    go_ret2
    exact ⟨ret_bb HF.out.1.symm HF.out.2.symm, HB2.out⟩
  have HF := Lib.hid (allV_yes hg hgm)
  have HK := Lib.hid (goodMs_kind hgm)
  have HG := Lib.hid hg
  go_wp2
  clear hg hgm
  go_loopw [18] (fun i wr => ∃ k : Nat, k ≤ ms.length ∧ i = .int .i64 k ∧ Hid (mAll (matchOne l) ms k) ∧ Hid (Below w.heap.size w wr)) (fun i _ => ms.length - (intOf i).toNat)
  case atStart => exact ⟨0, Nat.zero_le _, rfl, rfl, HB2⟩
  case round =>
    obtain ⟨k, hk, rfl, hG, hb⟩ := hrel
    by_cases hlt : k < ms.length
    · obtain ⟨b, off, hao, hbl, hc⟩ := HMr.out (by omega)
      subst hao
      have c0 := (hb.out.cell (p := ⟨b, off + k * 3, none⟩) hbl).trans (hc k hlt).1
      have c1 := (hb.out.cell (p := ⟨b, off + k * 3 + 1, none⟩) hbl).trans (hc k hlt).2.1
      have c2 := (hb.out.cell (p := ⟨b, off + k * 3 + 2, none⟩) hbl).trans (hc k hlt).2.2
      have hz := hFM.at hlt
      have HS := Lib.hid (fun hx => mAll_succ hG.out hlt hx)
      have HN := Lib.hid (fun hx => mAll_no hG.out hlt hx)
      have hkk := HK.out k hlt
      have HB3 := Lib.hid (hb.out.alloc (hb.out.size) (.cells #[.int .i64 ms[k].1, .string ms[k].2.1, .string ms[k].2.2] 43))
      clear hc
      generalize ms[k] = x at c0 c1 c2 HS HN HB3 hz hkk
      obtain ⟨x0, x1, x2⟩ := x
      go_wp2_with fail
      refine (match83 ao cap l hF HG.out x0 x1 x2 hkk hz.2 _ (hT.below' HB3.out) (hM.below' HB3.out) (H.out.after HB3.out)).mono ?_
      rintro e w3 ⟨rfl, hb3⟩
      have HB4 := Lib.hid (HB3.out.trans (hb3.mono HB3.out.size))
      clear hb3
      by_cases hq : takesB x0 x2 (isL l x1) = true
      · have HG2 := Lib.hid (HS.out hq)
        go_wp2
        go_roundw
        case rel => exact ⟨k + 1, by omega, by go_num, HG2, HB4⟩
        case measure => simp [intOf]; omega
      · have hq : takesB x0 x2 (isL l x1) = false := by simpa using hq
        have HQ := Lib.hid (HN.out hq)
        go_wp2
        go_ret2
        exact ⟨ret_bb (by rw [HF.out.1, HQ.out]) HF.out.2.symm, HB4.out⟩
    · obtain rfl : k = ms.length := by omega
      have HQ := Lib.hid (mAll_end hG.out)
      go_wp2
      go_ret2
      exact ⟨ret_bb (by rw [HF.out.1, HQ.out]) HF.out.2.symm, hb.out⟩

set_option maxHeartbeats 4000000 in
set_option maxRecDepth 100000 in
theorem all89 (ao bo : Option Addr) (cap dap : Nat) (l : List Lab) (hF : Fit l) (ms : List Mat) (hFM : FitM ms) (hK : ∀ k (hk : k < ms.length), kindB (ms[k]'hk).1 = true) (w : World) (h : LRow w w.heap.size ao l) (hm : MRow w w.heap.size bo ms) :
    Calls Tryd.prog 89 #[.slice ao l.length cap, .slice bo ms.length dap] w fun e w' => e = .returned (.bool (ms.all (matchOne l))) ∧ Below w.heap.size w w' := by
  have H := Lib.hid h
  have HMr := Lib.hid hm
  have HK := Lib.hid hK
  clear h hm hK
  have hn := hF.1
  have hn2 := hFM.1
  go_enter Tryd.func89, Tryd.ntmps89
  go_wp2
  go_loopw [9] (fun i wr => ∃ k : Nat, k ≤ ms.length ∧ i = .int .i64 k ∧ Hid (mAll (matchOne l) ms k) ∧ Hid (Below w.heap.size w wr)) (fun i _ => ms.length - (intOf i).toNat)
  case atStart => exact ⟨0, Nat.zero_le _, rfl, rfl, Below.refl _ _⟩
  case round =>
    obtain ⟨k, hk, rfl, hG, hb⟩ := hrel
    by_cases hlt : k < ms.length
    · obtain ⟨b, off, hao, hbl, hc⟩ := HMr.out (by omega)
      subst hao
      have c0 := (hb.out.cell (p := ⟨b, off + k * 3, none⟩) hbl).trans (hc k hlt).1
      have c1 := (hb.out.cell (p := ⟨b, off + k * 3 + 1, none⟩) hbl).trans (hc k hlt).2.1
      have c2 := (hb.out.cell (p := ⟨b, off + k * 3 + 2, none⟩) hbl).trans (hc k hlt).2.2
      have hz := hFM.at hlt
      have HS := Lib.hid (fun hx => mAll_succ hG.out hlt hx)
      have HN := Lib.hid (fun hx => mAll_no hG.out hlt hx)
      have hkk := HK.out k hlt
      have HB3 := Lib.hid (hb.out.alloc (hb.out.size) (.cells #[.int .i64 ms[k].1, .string ms[k].2.1, .string ms[k].2.2] 43))
      clear hc
      generalize ms[k] = x at c0 c1 c2 HS HN HB3 hz hkk
      obtain ⟨x0, x1, x2⟩ := x
      have ht : (isL l x1).size ≤ 1048576 := isL_size (fun x hx => (hF.2 x hx).2)
      go_wp2_with fail
      obtain ⟨k1, k2, k3⟩ := box3_cells (wr := wr) (k := x0) (x1 := x1) (x2 := x2) (t := 43) (Below.refl _ _)
      have hltw : wr.heap.size < (wr.alloc (.cells #[.int .i64 x0, .string x1, .string x2] 43)).heap.size := by simp
      generalize wr.alloc (.cells #[.int .i64 x0, .string x1, .string x2] 43) = w2 at HB3 k1 k2 k3 hltw ⊢
      have HL2 := Lib.hid (H.out.after HB3.out)
      go_region_held3 (fun w' => w'.cell? ⟨wr.heap.size, 0, none⟩ = some (.int .i64 x0) ∧ w'.cell? ⟨wr.heap.size, 1, none⟩ = some (.string x1) ∧ w'.cell? ⟨wr.heap.size, 2, none⟩ = some (.string x2)) (exact ⟨by assumption, by assumption, by assumption⟩) (first | (go_at_call 75; refine (is81 ao cap l hn x1 _ (HL2.out.drewN 1)).mono ?_; rintro e w3 ⟨rfl, hb3⟩; have k1' := (hb3.cell (p := ⟨wr.heap.size, 0, none⟩) hltw).trans k1; have k2' := (hb3.cell (p := ⟨wr.heap.size, 1, none⟩) hltw).trans k2; have k3' := (hb3.cell (p := ⟨wr.heap.size, 2, none⟩) hltw).trans k3; have hlt3 : wr.heap.size < w3.heap.size := Nat.lt_of_lt_of_le hltw hb3.size) | (go_at_call 85; refine (match85 x0 x1 x2 (isL l x1) hkk hz.2 ht _).mono ?_; rintro e w4 ⟨rfl, hb4⟩; have k1'' := (hb4.cell (p := ⟨wr.heap.size, 0, none⟩) hlt3).trans k1'; have k2'' := (hb4.cell (p := ⟨wr.heap.size, 1, none⟩) hlt3).trans k2'; have k3'' := (hb4.cell (p := ⟨wr.heap.size, 2, none⟩) hlt3).trans k3'))
      have HB4 := Lib.hid ((below_drewN HB3.out 1).trans ((hb3.trans (hb4.mono hb3.size)).mono HB3.out.size))
      clear hb3 hb4
      by_cases hq : takesB x0 x2 (isL l x1) = true
      · have HG2 := Lib.hid (HS.out hq)
        rw [hq]
        go_wp2
        go_roundw
        case rel => exact ⟨k + 1, by omega, by go_num, HG2, HB4⟩
        case measure => simp [intOf]; omega
      · have hq : takesB x0 x2 (isL l x1) = false := by simpa using hq
        have HQ := Lib.hid (HN.out hq)
        rw [hq]
        go_wp2
        go_ret
        exact ⟨ret_bool HQ.out.symm, HB4.out⟩
    · obtain rfl : k = ms.length := by omega
      have HQ := Lib.hid (mAll_end hG.out)
      go_wp2
      go_ret
      exact ⟨ret_bool HQ.out.symm, hb.out⟩

set_option maxHeartbeats 4000000 in
set_option maxRecDepth 100000 in
theorem all37 (ao bo : Option Addr) (cap dap : Nat) (l : List Lab) (hF : Fit l) (ms : List Mat) (hFM : FitM ms) (w : World) (h : LRow w w.heap.size ao l) (hm : MRow w w.heap.size bo ms) :
    Calls Tryd.prog 37 #[.slice ao l.length cap, .slice bo ms.length dap] w fun e w' => e = .returned (.tuple #[.bool (allV2 l ms), .bool (allB2 l ms)]) ∧ Below w.heap.size w w' := by
  have H := Lib.hid h
  have HMr := Lib.hid hm
  clear h hm
  go_enter Tryd.func37, Tryd.ntmps37
  go_wp2_with fail
  refine (good68 ao cap l hF _ H.out).mono ?_
  rintro e w1 ⟨rfl, hb⟩
  have HB1 := Lib.hid hb
  clear hb
  by_cases hg : goodB l = true
  case neg =>
    have hg : goodB l = false := by simpa using hg
    have HF := Lib.hid (allV_no (ms := ms) hg)
    go_wp2
    go_ret2
    exact ⟨ret_bb HF.out.1.symm HF.out.2.symm, HB1.out⟩
  go_wp2_with fail
  refine (good88 bo dap ms hFM _ (HMr.out.after HB1.out)).mono ?_
  rintro e w2 ⟨rfl, hb⟩
  have HB2 := Lib.hid (HB1.out.trans (hb.mono HB1.out.size))
  clear hb
  by_cases hgm : goodMs ms = true
  case neg =>
    have hgm : goodMs ms = false := by simpa using hgm
    have HF := Lib.hid (allV_no2 (l := l) hgm)
    go_wp2
    go_ret2
    exact ⟨ret_bb HF.out.1.symm HF.out.2.symm, HB2.out⟩
  have HF := Lib.hid (allV_yes hg hgm)
  go_wp2_with fail
  refine (all89 ao bo cap dap l hF ms hFM (goodMs_kind hgm) _ (H.out.after HB2.out) (HMr.out.after HB2.out)).mono ?_
  rintro e w3 ⟨rfl, hb⟩
  have HB3 := Lib.hid (HB2.out.trans (hb.mono HB2.out.size))
  clear hb
  go_wp2
  go_ret2
  exact ⟨ret_bb HF.out.1.symm HF.out.2.symm, HB3.out⟩
end Go.Proofs.YtpbcgfgjdimpmaaDoor
namespace Go.Proofs.YtpbcgfgjdimpmaaDoor
open Go.RowKit Go.Deep

theorem rises_strict : ∀ {l : List Lab}, rises l = true → strict l
  | [], _ => List.Pairwise.nil
  | [x], _ => List.pairwise_singleton _ _
  | x :: y :: l, h => by
    rw [rises, Bool.and_eq_true] at h
    have ih := rises_strict h.2
    refine List.Pairwise.cons ?_ ih
    intro z hz
    rcases List.mem_cons.1 hz with rfl | hz
    · exact h.1
    · exact less_trans h.1 ((List.pairwise_cons.1 ih).1 z hz)
theorem strict_rises : ∀ {l : List Lab}, strict l → rises l = true
  | [], _ => rfl
  | [x], _ => rfl
  | x :: y :: l, h => by
    have := List.pairwise_cons.1 h
    rw [rises, Bool.and_eq_true]
    exact ⟨this.1 y (by simp), strict_rises this.2⟩
theorem good_filter {l : List Lab} (h : goodB l = true) (p : Lab → Bool) : goodB (l.filter p) = true := by
  unfold goodB at h ⊢
  simp only [Bool.and_eq_true, decide_eq_true_eq, List.all_eq_true] at h ⊢
  refine ⟨⟨Nat.le_trans (List.length_filter_le _ _) h.1.1, fun x hx => h.1.2 x (List.mem_filter.1 hx).1⟩, strict_rises ((rises_strict h.2).sublist List.filter_sublist)⟩
theorem good_without {l : List Lab} (h : goodB l = true) (names : List ByteArray) : goodB (without l names) = true := good_filter h _
theorem isL_gone : ∀ {R : List Lab} {n : ByteArray}, (∀ y ∈ R, (y.1.toList == n.toList) = false) → isL R n = emp
  | [], _, _ => rfl
  | x :: R, n, h => by
    rw [isL, h x (by simp)]
    exact isL_gone (fun y hy => h y (List.mem_cons_of_mem _ hy))
theorem without_gone (l : List Lab) (n : ByteArray) : isL (without l [n]) n = emp := by
  refine isL_gone fun y hy => ?_
  have := (List.mem_filter.1 hy).2
  simpa [hasT] using this
def oppo (k : Int) : Int := if k = 1 then 2 else if k = 2 then 1 else if k = 3 then 4 else 3
theorem oppo_takes {k : Int} (h : kindB k = true) (s t : ByteArray) : takesB (oppo k) s t = !takesB k s t := by
  rcases kinds h with rfl | rfl | rfl | rfl
  · rfl
  · show takesB 1 s t = !takesB 2 s t
    rw [takesB1, takesB2, Bool.not_not]
  · rfl
  · show takesB 3 s t = !takesB 4 s t
    rw [takesB3, takesB4, Bool.not_not]
theorem oppo_kind {k : Int} (h : kindB k = true) : kindB (oppo k) = true := by
  rcases kinds h with rfl | rfl | rfl | rfl <;> rfl
theorem oppo_mat {k : Int} {n s : ByteArray} (h : matB (k, n, s) = true) : matB (oppo k, n, s) = true := by
  obtain ⟨h1, h2, h3⟩ : kindB k = true ∧ nameB n = true ∧ wordB s = true := by unfold matB at h; simpa only [Bool.and_eq_true] using h
  exact matB_yes (oppo_kind h1) h2 h3
theorem star_all (s : ByteArray) : likeS ⟨#[42]⟩ s = true := by
  unfold likeS
  show like [42] s.data.toList = true
  rw [like_star]
  exact ⟨s.data.toList, [], by simp, rfl⟩
theorem star_word : wordB ⟨#[42]⟩ = true := by decide
end Go.Proofs.YtpbcgfgjdimpmaaDoor
