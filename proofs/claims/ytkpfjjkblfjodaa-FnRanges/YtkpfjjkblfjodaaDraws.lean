/- Contracts of the model's draws of chapter 1 from bytes, over this seat's translation: each answers some values of its kind in new memory and writes nothing that was there. -/
import Derived.Test.YtkpfjjkblfjodaaVals
import Derived.Test.YtkpfjjkblfjodaaOrder
namespace Go.Proofs.Ytkpfjjkblfjodaa
open Go.RowKit Go.Deep

theorem below_of_grown {w w' : World} {o : Obj} (h : (w.alloc o).grownBy w' (some w.heap.size)) : Below w.heap.size w w' :=
  ((Below.refl _ _).alloc (Nat.le_refl _) o).grown h (by simp) (fun k hk => by cases hk; exact Nat.le_refl _)

theorem cur_new (w : World) (ao : Option Addr) (n cap : Nat) (h : BRow w w.heap.size ao n) : Cur (w.alloc (.cells #[.slice ao n cap, .int .i64 0, .int .u64 0] 49)) w.heap.size ao n cap 0 :=
  ⟨⟨0, by decide, by decide, blk_alloc_new _ _⟩, h.other (World.grownBy_alloc _ _ _)⟩

def DrawnV (w : World) (e : Ending) (w' : World) : Prop := ∃ x : Nat, x < 18446744073709551616 ∧ e = .returned (.float .f64 x) ∧ Below w.heap.size w w'

theorem draw16 (w : World) (ao : Option Addr) (n cap : Nat) (h : BRow w w.heap.size ao n) (hn : n ≤ 1048576) : Calls Try.prog 16 #[.slice ao n cap] w (DrawnV w) := by
  have H := Lib.hid h
  clear h
  go_enter Try.func16, Try.ntmps16
  go_wp2_with fail
  refine (value44 _ _ ao n cap 0 (cur_new w ao n cap H.out) hn (by omega)).mono ?_
  rintro e w1 ⟨x, hx, rfl, hD⟩
  have HB := Lib.hid (below_of_grown hD.2)
  clear hD
  go_wp2
  go_ret
  exact ⟨x, hx, rfl, HB.out⟩

def DrawnU (w : World) (e : Ending) (w' : World) : Prop := ∃ x : Nat, x < 18446744073709551616 ∧ e = .returned (.int .u64 x) ∧ Below w.heap.size w w'

theorem draw19 (w : World) (ao : Option Addr) (n cap : Nat) (h : BRow w w.heap.size ao n) (hn : n ≤ 1048576) : Calls Try.prog 19 #[.slice ao n cap] w (DrawnU w) := by
  have H := Lib.hid h
  have hf := run45
  clear h
  go_enter Try.func19, Try.ntmps19
  go_wp2_with fail
  refine (draw16 w ao n cap H.out hn).mono ?_
  rintro e w1 ⟨x, hx, rfl, hD⟩
  have HB := Lib.hid hD
  clear hD
  go_wp2
  go_ret
  exact ⟨x, hx, rfl, HB.out⟩

def DrawnVV (w : World) (e : Ending) (w' : World) : Prop := ∃ x y : Nat, x < 18446744073709551616 ∧ y < 18446744073709551616 ∧ e = .returned (.tuple #[.float .f64 x, .float .f64 y]) ∧ Below w.heap.size w w'

theorem draw47 (w : World) (ao : Option Addr) (n cap : Nat) (h : BRow w w.heap.size ao n) (hn : n ≤ 1048576) : Calls Try.prog 47 #[.slice ao n cap] w (DrawnVV w) := by
  have H := Lib.hid h
  clear h
  go_enter Try.func47, Try.ntmps47
  go_wp2_with fail
  refine (value44 _ _ ao n cap 0 (cur_new w ao n cap H.out) hn (by omega)).mono ?_
  rintro e w1 ⟨x, hx, rfl, ⟨k1, hk1, hC1⟩, hG1⟩
  have HC1 := Lib.hid hC1; have HG1 := Lib.hid hG1; clear hC1 hG1
  go_wp2_with fail
  refine (one51 _ _ ao n cap k1 3 HC1.out hn (by omega) (by decide) (by decide)).mono ?_
  rintro e w2 ⟨b, rfl, ⟨k2, hk2, hC2⟩, hG2⟩
  have HC2 := Lib.hid hC2; have HG2 := Lib.hid (HG1.out.trans hG2); clear hC2 hG2
  cases b
  · go_wp2_with fail
    refine (value44 _ _ ao n cap k2 HC2.out hn (by omega)).mono ?_
    rintro e w3 ⟨y, hy, rfl, ⟨k3, hk3, hC3⟩, hG3⟩
    have HG3 := Lib.hid (HG2.out.trans hG3); clear hC3 hG3
    go_wp2
    go_ret2
    exact ⟨x, y, hx, hy, rfl, below_of_grown HG3.out⟩
  · go_wp2
    go_ret2
    exact ⟨x, x, hx, hx, rfl, below_of_grown HG2.out⟩

theorem draw24 (w : World) (ao : Option Addr) (n cap : Nat) (h : BRow w w.heap.size ao n) (hn : n ≤ 1048576) : Calls Try.prog 24 #[.slice ao n cap] w (DrawnVV w) := by
  have H := Lib.hid h
  clear h
  go_enter Try.func24, Try.ntmps24
  go_wp2_with fail
  refine (draw47 w ao n cap H.out hn).mono ?_
  rintro e w1 ⟨x, y, hx, hy, rfl, hD⟩
  have HB := Lib.hid hD
  clear hD
  go_wp2
  go_ret2
  exact ⟨x, y, hx, hy, rfl, HB.out⟩

theorem draw29 (w : World) (ao : Option Addr) (n cap : Nat) (h : BRow w w.heap.size ao n) (hn : n ≤ 1048576) : Calls Try.prog 29 #[.slice ao n cap] w (DrawnV w) := by
  have H := Lib.hid h
  clear h
  go_enter Try.func29, Try.ntmps29
  go_wp2_with fail
  refine (one51 _ _ ao n cap 0 3 (cur_new w ao n cap H.out) hn (by omega) (by decide) (by decide)).mono ?_
  rintro e w2 ⟨b, rfl, ⟨k2, hk2, hC2⟩, hG2⟩
  have HC2 := Lib.hid hC2; have HG2 := Lib.hid hG2; clear hC2 hG2
  cases b
  · go_wp2_with fail
    refine (value44 _ _ ao n cap k2 HC2.out hn (by omega)).mono ?_
    rintro e w3 ⟨y, hy, rfl, ⟨k3, hk3, hC3⟩, hG3⟩
    have HG3 := Lib.hid (HG2.out.trans hG3); clear hC3 hG3
    go_wp2
    go_ret
    exact ⟨y, hy, rfl, below_of_grown HG3.out⟩
  · go_wp2_with fail
    refine (mark33 _).mono ?_
    rintro e w3 ⟨rfl, rfl⟩
    go_wp2
    go_ret
    exact ⟨_, by decide, rfl, below_of_grown HG2.out⟩

theorem BRow.below {w w' : World} {ao : Option Addr} {n : Nat} (h : BRow w w.heap.size ao n) (hb : Below w.heap.size w w') : BRow w' w'.heap.size ao n := fun hp => by
  obtain ⟨b, off, e, hl, hc⟩ := h hp
  refine ⟨b, off, e, Nat.lt_of_lt_of_le hl hb.size, fun i hi => ?_⟩
  obtain ⟨z, h0, h1, h2⟩ := hc i hi
  exact ⟨z, h0, h1, (hb.cell (p := ⟨b, off + i, none⟩) hl).trans h2⟩
end Go.Proofs.Ytkpfjjkblfjodaa
