/- Contracts of the model's draws for the laws FnMatches and FnLabelTexts, over this seat's translation: something short in new memory, nothing that was there written. -/
import Derived.Test.YtpbcgfgjdimpmaaDoorAny
import Derived.Test.YtpbcgfgjdimpmaaDoorSpoil
import Derived.Test.YtpbcgfgjdimpmaaDoorHash
namespace Go.Proofs.YtpbcgfgjdimpmaaDoor
open Go.RowKit Go.Deep

/-- A cursor behind a new block. -/
theorem cur_new1 (w : World) (o : Obj) (ao : Option Addr) (n cap : Nat) (h : BRow w w.heap.size ao n) : Cur ((w.alloc o).alloc (.cells #[.slice ao n cap, .int .i64 0, .int .u64 0] 90)) (w.heap.size + 1) ao n cap 0 := by
  have := cur_new _ ao n cap (h.below ((Below.refl w.heap.size w).alloc (Nat.le_refl _) o))
  rwa [show (w.alloc o).heap.size = w.heap.size + 1 by simp] at this
def LMDrawn (w : World) (e : Ending) (w' : World) : Prop := ∃ (ao : Option Addr) (c : Nat) (l : List Lab) (q : Int) (x y : ByteArray), Small 5 l ∧ x.size ≤ 20 ∧ y.size ≤ 20 ∧ e = .returned (.tuple #[.slice ao l.length c, matV q x y]) ∧ LRow w' w'.heap.size ao l ∧ Below w.heap.size w w'

theorem grown_sz {w w' : World} {B : Nat} (h : w.grownBy w' (some B)) : w.heap.size ≤ w'.heap.size := h.size

set_option maxHeartbeats 4000000 in
set_option maxRecDepth 100000 in
theorem draw31 (w : World) (ao : Option Addr) (n cap : Nat) (h : BRow w w.heap.size ao n) (hn : n ≤ 1048576) : Calls Tryd.prog 31 #[.slice ao n cap] w (LMDrawn w) := by
  have HB0 := Lib.hid ((Below.refl w.heap.size w).alloc (Nat.le_refl _) (.cells #[.int .i64 0, .string ⟨#[]⟩, .string ⟨#[]⟩] 43))
  have HC0 := Lib.hid (cur_new1 w (.cells #[.int .i64 0, .string ⟨#[]⟩, .string ⟨#[]⟩] 43) ao n cap h)
  have HR0 := Lib.hid ((Blk3.new w (.int .i64 0) (.string ⟨#[]⟩) (.string ⟨#[]⟩)).alloc (.cells #[.slice ao n cap, .int .i64 0, .int .u64 0] 90))
  have HBa := Lib.hid (HB0.out.alloc HB0.out.size (.cells #[.slice ao n cap, .int .i64 0, .int .u64 0] 90))
  have hsz : ((w.alloc (.cells #[.int .i64 0, .string ⟨#[]⟩, .string ⟨#[]⟩] 43)).alloc (.cells #[.slice ao n cap, .int .i64 0, .int .u64 0] 90)).heap.size = w.heap.size + 2 := by simp
  clear h
  go_enter Tryd.func31, Tryd.ntmps31
  go_wp2_with fail
  refine (any64 _ (w.heap.size + 1) ao n cap 0 HC0.out hn (by omega)).mono ?_
  rintro e w1 ⟨v, l, hs, rfl, ho, ⟨k1, hk1, hC1⟩, hg⟩
  obtain ⟨va, vc, rfl⟩ := own_slice ho
  have HS := Lib.hid hs
  have HO := Lib.hid ho
  have HC1 := Lib.hid hC1
  have HR1 := Lib.hid (HR0.out.kept hg (by omega))
  have HB1 := Lib.hid (HBa.out.grown hg HBa.out.size (fun k hk => by injection hk with hk; omega))
  clear hs ho hC1 hg
  go_wp2_with fail
  refine (matcher81 _ (w.heap.size + 1) ao n cap k1 HC1.out hn (by omega)).mono ?_
  rintro e w2 ⟨q, x, y, hx, hy, rfl, _, hg⟩
  obtain ⟨z0, z1, z2, f0, f1, f2⟩ := (HR1.out.kept hg (by omega)).cells
  have HB2 := Lib.hid (HB1.out.grown hg HB1.out.size (fun k hk => by injection hk with hk; omega))
  have HO2 := Lib.hid (own_other HO.out (by omega) hg)
  have HL2 := Lib.hid (LRow.of_own HO2.out).2
  clear hg
  go_wp2
  have hbs := HB2.out
  refine bodyPost_ret (v := .tuple #[.slice va l.length vc, matV q x y]) (by simp [results, Tryd.results31, go_sem, z0, z1, z2]) rfl ⟨va, vc, l, q, x, y, HS.out, hx, hy, rfl, ?_, ((hbs.setCell (Nat.le_refl _) _).setCell (Nat.le_refl _) _).setCell (Nat.le_refl _) _⟩
  intro hl
  obtain ⟨b, off, e, hbl, hc⟩ := HL2.out hl
  have hne : b ≠ w.heap.size := by
    subst e
    have := (HO2.out.lt b rfl).1
    omega
  refine ⟨b, off, e, by simpa using hbl, fun k hk => ?_⟩
  have := hc k hk
  have o0 : ∀ (W : World) (j i : Nat) (u : Value), (W.setCell ⟨w.heap.size, j, none⟩ u).cell? ⟨b, i, none⟩ = W.cell? ⟨b, i, none⟩ := fun W j i u => World.cell?_setCell_other _ _ _ _ (fun h => hne (by injection h with h; exact h.symm))
  simp only [o0]
  exact this

def LMsDrawn (w : World) (e : Ending) (w' : World) : Prop := ∃ (ao bo : Option Addr) (c d : Nat) (l : List Lab) (ms : List Mat), Small 5 l ∧ SmallM 2 ms ∧ e = .returned (.tuple #[.slice ao l.length c, .slice bo ms.length d]) ∧ LRow w' w'.heap.size ao l ∧ MRow w' w'.heap.size bo ms ∧ Below w.heap.size w w'

set_option maxHeartbeats 4000000 in
set_option maxRecDepth 100000 in
theorem draw35 (w : World) (ao : Option Addr) (n cap : Nat) (h : BRow w w.heap.size ao n) (hn : n ≤ 1048576) : Calls Tryd.prog 35 #[.slice ao n cap] w (LMsDrawn w) := by
  have HC0 := Lib.hid (cur_new w ao n cap h)
  clear h
  have hsz : w.heap.size < (w.alloc (.cells #[.slice ao n cap, .int .i64 0, .int .u64 0] 90)).heap.size := by simp
  have HZ := Lib.hid hsz
  clear hsz
  go_enter Tryd.func35, Tryd.ntmps35
  go_wp2_with fail
  refine (any64 _ _ ao n cap 0 HC0.out hn (by omega)).mono ?_
  rintro e w1 ⟨v, l, hs, rfl, ho, ⟨k1, hk1, hC1⟩, hg⟩
  obtain ⟨va, vc, rfl⟩ := own_slice ho
  have HS := Lib.hid hs
  have HO := Lib.hid ho
  have HC1 := Lib.hid hC1
  have HG := Lib.hid hg
  clear hs ho hC1 hg
  go_wp2_with fail
  refine (matchers87 _ _ ao n cap k1 HC1.out hn (by omega)).mono ?_
  rintro e w2 ⟨v2, ms, hs2, rfl, ho2, _, hg2⟩
  obtain ⟨vb, vd, rfl⟩ := own_slice ho2
  have HL2 := Lib.hid (LRow.of_own (own_other HO.out HZ.out hg2)).2
  have HM2 := Lib.hid (MRow.of_own ho2).2
  have HB2 := Lib.hid (below_cur (HG.out.trans hg2))
  have HS2 := Lib.hid hs2
  clear hs2 ho2 hg2
  go_wp2
  go_ret2
  exact ⟨va, vb, vc, vd, l, ms, HS.out, HS2.out, rfl, HL2.out, HM2.out, HB2.out⟩

def TTDrawn (w : World) (e : Ending) (w' : World) : Prop := ∃ x y : ByteArray, x.size ≤ 20 ∧ y.size ≤ 20 ∧ e = .returned (.tuple #[.string x, .string y]) ∧ Below w.heap.size w w'
set_option maxHeartbeats 4000000 in
set_option maxRecDepth 100000 in
theorem draw40 (w : World) (ao : Option Addr) (n cap : Nat) (h : BRow w w.heap.size ao n) (hn : n ≤ 1048576) : Calls Tryd.prog 40 #[.slice ao n cap] w (TTDrawn w) := by
  have H := Lib.hid (cur_new w ao n cap h)
  clear h
  go_enter Tryd.func40, Tryd.ntmps40
  go_wp2_with fail
  refine (of70 _ _ ao n cap 0 _ _ [⟨#[]⟩, ⟨#[42]⟩, ⟨#[97, 42]⟩, ⟨#[42, 97]⟩, ⟨#[97, 42, 98]⟩, ⟨#[42, 42]⟩, ⟨#[97, 42, 97, 42, 97]⟩, ⟨#[97, 98]⟩, ⟨#[42, 98, 42]⟩] (H.out.alloc _) hn (by omega) ⟨by decide, by decide, by decide⟩ ⟨w.heap.size + 1, rfl, by omega, fresh_texts1 w _ _ 9⟩).mono ?_
  rintro e w2 ⟨x, hx, rfl, ⟨k2, hk2, hC2⟩, hg⟩
  have HC2 := Lib.hid hC2
  have HG2 := Lib.hid ((World.grownBy_alloc _ _ _).trans hg)
  clear hC2 hg
  go_wp2_with fail
  refine (of70 _ _ ao n cap k2 _ _ [⟨#[]⟩, ⟨#[97]⟩, ⟨#[97, 98]⟩, ⟨#[97, 98, 97]⟩, ⟨#[97, 97, 97]⟩, ⟨#[98]⟩, ⟨#[97, 98, 97, 98]⟩, ⟨#[97, 32, 98]⟩] (HC2.out.alloc _) hn (by omega) ⟨by decide, by decide, by decide⟩ ⟨_, rfl, HC2.out.lt, fresh_texts w2 _ 9⟩).mono ?_
  rintro e w3 ⟨y, hy, rfl, _, hg⟩
  have HB := Lib.hid (below_cur ((HG2.out.trans (World.grownBy_alloc _ _ _)).trans hg))
  clear hg
  go_wp2
  go_ret2
  exact ⟨x, y, hx, hy, rfl, HB.out⟩
end Go.Proofs.YtpbcgfgjdimpmaaDoor
