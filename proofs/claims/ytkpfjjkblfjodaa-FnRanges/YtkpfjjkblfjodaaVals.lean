/- Contracts of the model's drawing of one value, over this seat's translation: it answers some float64 and writes into the cursor alone. -/
import Derived.Test.YtkpfjjkblfjodaaCur
namespace Go.Proofs.Ytkpfjjkblfjodaa
open Go.RowKit Go.Deep

def OneOf (w : World) (B : Nat) (ao : Option Addr) (n cap k j : Nat) (e : Ending) (w' : World) : Prop :=
  ∃ b : Bool, e = .returned (.bool b) ∧ Drawn w w' B ao n cap k j

theorem one51 (w : World) (B : Nat) (ao : Option Addr) (n cap k : Nat) (m : Int) (h : Cur w B ao n cap k) (hn : n ≤ 1048576) (hk : k ≤ 9000000) (hm1 : 1 < m) (hm2 : m ≤ 200) :
    Calls Try.prog 51 #[.pointer (some ⟨B, 0, none⟩), .int .i64 m] w (OneOf w B ao n cap k 1) := by
  have H := Lib.hid h
  clear h
  go_enter Try.func51, Try.ntmps51
  go_wp2_with fail
  refine (pick53 w B ao n cap k m H.out hn hk hm1 hm2).mono ?_
  rintro e w1 ⟨r, hr0, hr1, rfl, hD⟩
  have HD := Lib.hid hD; clear hD
  go_wp2
  go_ret
  exact ⟨_, rfl, HD.out⟩

/-- Some value was drawn. -/
def Valued (w : World) (B : Nat) (ao : Option Addr) (n cap k j : Nat) (e : Ending) (w' : World) : Prop :=
  ∃ x : Nat, x < 18446744073709551616 ∧ e = .returned (.float .f64 x) ∧ Drawn w w' B ao n cap k j

theorem Drawn.trans {a b c : World} {B : Nat} {ao : Option Addr} {n cap k i k' j : Nat} (h : a.grownBy b (some B)) (hk : k' ≤ k + i) (h2 : Drawn b c B ao n cap k' j) : Drawn a c B ao n cap k (i + j) := by
  obtain ⟨⟨k2, hk2, hc⟩, hg⟩ := h2
  exact ⟨⟨k2, by omega, hc⟩, h.trans hg⟩

theorem float_lt (n : Int) : floatOfInt .f64 n < 18446744073709551616 := by
  have := floatOfInt_wf .f64 n
  simpa [Lit.wf] using this

theorem quo_lt {x y r : Nat} (h : floatBits .quo .f64 x y = some r) : r < 18446744073709551616 := by
  have := floatBits_wf h
  simpa [Lit.wf] using this

theorem run_quo_none {P : Program} {x y : Nat} (h : floatBits .quo .f64 x y = none) (t : TypeId) (w : World) : (binOp .quo t (.float .f64 x) (.float .f64 y)).run P w = .ok (.float .f64 (nanPick w x y)) w.drew := by
  have h' : FloatKind.f64.format.div x y = none := h
  simp only [binOp, Op.floatArith, h']
  rfl

theorem Cur.lt {w : World} {B : Nat} {ao : Option Addr} {n cap k : Nat} (h : Cur w B ao n cap k) : B < w.heap.size := by
  obtain ⟨⟨s, _, _, hb⟩, _⟩ := h
  exact (Array.getElem?_eq_some_iff.1 hb).1

theorem Cur.alloc {w : World} {B : Nat} {ao : Option Addr} {n cap k : Nat} (h : Cur w B ao n cap k) (o : Obj) : Cur (w.alloc o) B ao n cap k := by
  have hl := h.lt
  obtain ⟨⟨s, h0, h1, hb⟩, hr⟩ := h
  exact ⟨⟨s, h0, h1, by rw [Below.heap_alloc _ _ _ hl]; exact hb⟩, hr.other (World.grownBy_alloc _ _ _)⟩

/-- Twelve numbers of 64 bits in a new block, behind a call that writes into the cursor alone. -/
theorem edge_cell {w1 w2 : World} {B : Nat} (cs : Array Value) (hB : B < w1.heap.size) (hg : (w1.alloc (.cells cs 26)).grownBy w2 (some B)) {i : Nat} {v : Value} (hi : cs[i]? = some v) : w2.cell? ⟨w1.heap.size, i, none⟩ = some v := by
  refine hg.cell (a := ⟨w1.heap.size, i, none⟩) ?_ (by simp; omega)
  have e := blk_alloc_new w1 (.cells cs 26)
  simp only [World.cell?, e, hi]
  rfl

theorem edge_at (i : Nat) (h : i < 12) (a0 a1 a2 a3 a4 a5 a6 a7 a8 a9 a10 a11 : Int) (P : Int → Prop) (hP : P a0 ∧ P a1 ∧ P a2 ∧ P a3 ∧ P a4 ∧ P a5 ∧ P a6 ∧ P a7 ∧ P a8 ∧ P a9 ∧ P a10 ∧ P a11) :
    ∃ t, P t ∧ (#[Value.int .u64 a0, .int .u64 a1, .int .u64 a2, .int .u64 a3, .int .u64 a4, .int .u64 a5, .int .u64 a6, .int .u64 a7, .int .u64 a8, .int .u64 a9, .int .u64 a10, .int .u64 a11] : Array Value)[i]? = some (.int .u64 t) := by
  obtain ⟨h0, h1, h2, h3, h4, h5, h6, h7, h8, h9, h10, h11⟩ := hP
  match i, h with
  | 0, _ => exact ⟨_, h0, rfl⟩
  | 1, _ => exact ⟨_, h1, rfl⟩
  | 2, _ => exact ⟨_, h2, rfl⟩
  | 3, _ => exact ⟨_, h3, rfl⟩
  | 4, _ => exact ⟨_, h4, rfl⟩
  | 5, _ => exact ⟨_, h5, rfl⟩
  | 6, _ => exact ⟨_, h6, rfl⟩
  | 7, _ => exact ⟨_, h7, rfl⟩
  | 8, _ => exact ⟨_, h8, rfl⟩
  | 9, _ => exact ⟨_, h9, rfl⟩
  | 10, _ => exact ⟨_, h10, rfl⟩
  | 11, _ => exact ⟨_, h11, rfl⟩

set_option maxHeartbeats 2000000 in
theorem value44 (w : World) (B : Nat) (ao : Option Addr) (n cap k : Nat) (h : Cur w B ao n cap k) (hn : n ≤ 1048576) (hk : k ≤ 8000000) :
    Calls Try.prog 44 #[.pointer (some ⟨B, 0, none⟩)] w (Valued w B ao n cap k 2) := by
  have H := Lib.hid h
  clear h
  have hf := run46
  go_enter Try.func44, Try.ntmps44
  go_wp2_with fail
  refine (pick53 w B ao n cap k 9 H.out hn (by omega) (by decide) (by decide)).mono ?_
  rintro e w1 ⟨r, hr0, hr1, rfl, ⟨k1, hk1, hC⟩, hG⟩
  have HC := Lib.hid hC; have HG := Lib.hid hG; clear hC hG
  go_wp2_with fail
  · refine (pick53 _ B ao n cap k1 12 (HC.out.alloc _) hn (by omega) (by decide) (by decide)).mono ?_
    rintro e w2 ⟨r2, hr20, hr21, rfl, hD⟩
    obtain ⟨i, rfl⟩ := Int.eq_ofNat_of_zero_le hr20
    obtain ⟨t, ⟨ht0, ht1⟩, ht⟩ := edge_at i (by omega) 0 9223372036854775808 9218868437227405312 18442240474082181120 9221120237041090560 9218868437227405314 18444492273895866369 1 9223372036854775809 4503599627370495 4503599627370496 9218868437227405311 (fun t => 0 ≤ t ∧ t ≤ 18446744073709551615) (by decide)
    have hcell := edge_cell _ HC.out.lt hD.2 ht
    have HD := Lib.hid hD
    clear hD ht
    go_wp2
    go_ret
    exact ⟨_, by omega, rfl, Drawn.trans (i := 1) (j := 1) (HG.out.trans (World.grownBy_alloc _ _ _)) hk1 HD.out⟩
  · refine (next57 _ B ao n cap k1 HC.out hn (by omega)).mono ?_
    rintro e w2 ⟨r2, hr20, hr21, rfl, hC2, hG2⟩
    have HC2 := Lib.hid hC2; have HG2 := Lib.hid hG2; clear hC2 hG2
    go_wp2
    go_ret
    exact ⟨_, by have := wrapu_bounds (r2 * 72057594037927936); omega, rfl, ⟨k1 + 1, by omega, HC2.out⟩, HG.out.trans HG2.out⟩
  · refine (pick53 _ B ao n cap k1 7 HC.out hn (by omega) (by decide) (by decide)).mono ?_
    rintro e w2 ⟨r2, hr20, hr21, rfl, hD⟩
    have HD := Lib.hid (Drawn.trans (i := 1) (j := 1) HG.out hk1 hD)
    clear hD
    cases hq : floatBits .quo .f64 (floatOfInt .f64 (r2 - 3)) 4616189618054758400 with
    | some x =>
      have hop := fun t w => run_float_arith (P := Try.prog) w .quo t .f64 _ _ x hq
      have HL := Lib.hid (quo_lt hq)
      clear hq
      go_wp2
      go_ret
      exact ⟨_, HL.out, rfl, HD.out⟩
    | none =>
      have hop := fun t w => run_quo_none (P := Try.prog) hq t w
      clear hq
      go_wp2
      go_ret
      exact ⟨_, nanPick_lt _ _ _, rfl, HD.out.1, HD.out.2.trans ⟨rfl, rfl, rfl, Nat.le_refl _, fun _ _ _ => rfl⟩⟩
  · refine (pick53 _ B ao n cap k1 20 HC.out hn (by omega) (by decide) (by decide)).mono ?_
    rintro e w2 ⟨r2, hr20, hr21, rfl, hD⟩
    have HD := Lib.hid (Drawn.trans (i := 1) (j := 1) HG.out hk1 hD)
    clear hD
    go_wp2
    go_ret
    exact ⟨_, float_lt _, rfl, HD.out⟩
end Go.Proofs.Ytkpfjjkblfjodaa
