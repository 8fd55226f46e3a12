/- Contracts of the cursor by which the model draws inputs from bytes, over this seat's translation: each answers some number within its bounds and writes into the cursor alone. -/
import Derived.Test.YteiefngamccapaaOwn
namespace Go.Proofs.Yteiefngamccapaa
open Go.RowKit Go.Deep

/-- A slice of bytes below block B. -/
def BRow (w : World) (B : Nat) (ao : Option Addr) (n : Nat) : Prop :=
  0 < n → ∃ b off, ao = some ⟨b, off, none⟩ ∧ b < B ∧ ∀ i, i < n → ∃ z : Int, 0 ≤ z ∧ z ≤ 255 ∧ w.cell? ⟨b, off + i, none⟩ = some (.int .u8 z)

/-- The cursor in block B: it reads n bytes, and stands at place k. -/
def Cur (w : World) (B : Nat) (ao : Option Addr) (n cap k : Nat) : Prop :=
  (∃ s : Int, 0 ≤ s ∧ s ≤ 18446744073709551615 ∧ w.heap[B]? = some (.cells #[.slice ao n cap, .int .i64 k, .int .u64 s] 161 (0, 0))) ∧ BRow w B ao n

theorem BRow.other {w w' : World} {B : Nat} {ao : Option Addr} {n : Nat} (h : BRow w B ao n) (hg : w.grownBy w' (some B)) : BRow w' B ao n := fun hp => by
  obtain ⟨b, off, e, hb, hc⟩ := h hp
  refine ⟨b, off, e, hb, fun i hi => ?_⟩
  obtain ⟨z, h0, h1, h2⟩ := hc i hi
  exact ⟨z, h0, h1, hg.cell h2 (by simp; omega)⟩

theorem grownBy_drewN (w : World) (q : Nat) (row : Option Nat) : w.grownBy (w.drewN q) row := by
  induction q with
  | zero => exact World.grownBy.refl _ _
  | succ q ih => exact ih.trans ⟨rfl, rfl, rfl, Nat.le_refl _, fun _ _ _ => rfl⟩

theorem grownBy_setCell (w : World) (B i : Nat) (v : Value) : w.grownBy (w.setCell ⟨B, i, none⟩ v) (some B) :=
  ⟨rfl, rfl, rfl, by simp [World.setCell], fun k _ hne => Below.heap_setCell _ _ _ _ (fun e => hne (by simp [e]))⟩

theorem cur_step {w : World} {B : Nat} {ao : Option Addr} {n cap k : Nat} {s : Int} (hb : w.heap[B]? = some (.cells #[.slice ao n cap, .int .i64 k, .int .u64 s] 161 (0, 0))) (hr : BRow w B ao n) (a c : Nat) (t : Int) (h0 : 0 ≤ t) (h1 : t ≤ 18446744073709551615) :
    Cur ((((w.drewN a).setCell ⟨B, 1, none⟩ (.int .i64 (k + 1))).setCell ⟨B, 2, none⟩ (.int .u64 t)).drewN c) B ao n cap (k + 1) ∧ w.grownBy ((((w.drewN a).setCell ⟨B, 1, none⟩ (.int .i64 (k + 1))).setCell ⟨B, 2, none⟩ (.int .u64 t)).drewN c) (some B) := by
  have hg : w.grownBy ((((w.drewN a).setCell ⟨B, 1, none⟩ (.int .i64 (k + 1))).setCell ⟨B, 2, none⟩ (.int .u64 t)).drewN c) (some B) :=
    (((grownBy_drewN _ _ _).trans (grownBy_setCell _ _ _ _)).trans (grownBy_setCell _ _ _ _)).trans (grownBy_drewN _ _ _)
  refine ⟨⟨⟨t, h0, h1, ?_⟩, hr.other hg⟩, hg⟩
  simp [World.setCell, Array.getElem?_modify, hb]

theorem wrapu_bounds (x : Int) : 0 ≤ IntKind.u64.wrap x ∧ IntKind.u64.wrap x ≤ 18446744073709551615 := by rw [IntKind.wrap_u64]; omega

theorem low8 (x : Int) (h0 : 0 ≤ x) (h1 : x ≤ 18446744073709551615) : 0 ≤ RowKit.wrap64 (bits BinOp.and IntKind.u64 x 255) ∧ RowKit.wrap64 (bits BinOp.and IntKind.u64 x 255) ≤ 255 := by
  have h := bits_and_u64_nat x.toNat 255 (by omega) (by omega)
  rw [show (255 : Nat) = 2 ^ 8 - 1 from rfl, Nat.and_two_pow_sub_one_eq_mod, Int.toNat_of_nonneg h0] at h
  have e : bits BinOp.and IntKind.u64 x 255 = ((x.toNat % 2 ^ 8 : Nat) : Int) := h
  rw [e]
  unfold RowKit.wrap64
  omega

/-- What a call that draws leaves: some place further on, and what it has made. -/
def Drawn (w w' : World) (B : Nat) (ao : Option Addr) (n cap k j : Nat) : Prop := (∃ k', k' ≤ k + j ∧ Cur w' B ao n cap k') ∧ w.grownBy w' (some B)

def Picked (w : World) (B : Nat) (ao : Option Addr) (n cap k j : Nat) (m : Int) (e : Ending) (w' : World) : Prop :=
  ∃ r : Int, 0 ≤ r ∧ r < m ∧ e = .returned (.int .i64 r) ∧ Drawn w w' B ao n cap k j

theorem Drawn.trans {a b c : World} {B : Nat} {ao : Option Addr} {n cap k i k' j : Nat} (h : a.grownBy b (some B)) (hk : k' ≤ k + i) (h2 : Drawn b c B ao n cap k' j) : Drawn a c B ao n cap k (i + j) := by
  obtain ⟨⟨k2, hk2, hc⟩, hg⟩ := h2
  exact ⟨⟨k2, by omega, hc⟩, h.trans hg⟩
theorem Cur.lt {w : World} {B : Nat} {ao : Option Addr} {n cap k : Nat} (h : Cur w B ao n cap k) : B < w.heap.size := by
  obtain ⟨⟨s, _, _, hb⟩, _⟩ := h
  exact (Array.getElem?_eq_some_iff.1 hb).1
theorem Cur.alloc {w : World} {B : Nat} {ao : Option Addr} {n cap k : Nat} (h : Cur w B ao n cap k) (o : Obj) : Cur (w.alloc o) B ao n cap k := by
  have hl := h.lt
  obtain ⟨⟨s, h0, h1, hb⟩, hr⟩ := h
  exact ⟨⟨s, h0, h1, by rw [Below.heap_alloc _ _ _ hl]; exact hb⟩, hr.other (World.grownBy_alloc _ _ _)⟩
theorem Cur.kept {w w' : World} {B : Nat} {ao : Option Addr} {n cap k : Nat} {row : Option Nat} (h : Cur w B ao n cap k) (hg : w.grownBy w' row) (hr : ∀ g, row = some g → B < g) : Cur w' B ao n cap k := by
  have hl := h.lt
  obtain ⟨⟨s, h0, h1, hb⟩, hrow⟩ := h
  refine ⟨⟨s, h0, h1, ?_⟩, fun hp => ?_⟩
  · rw [hg.block B hl (fun e => by have := hr B e.symm; omega)]; exact hb
  · obtain ⟨b, off, e, hbl, hc⟩ := hrow hp
    refine ⟨b, off, e, hbl, fun i hi => ?_⟩
    obtain ⟨z, z0, z1, z2⟩ := hc i hi
    exact ⟨z, z0, z1, hg.cell z2 (fun e => by have := hr b e.symm; omega)⟩
theorem Cur.below {w w' : World} {B : Nat} {ao : Option Addr} {n cap k : Nat} (h : Cur w B ao n cap k) (hb : Below w.heap.size w w') : Cur w' B ao n cap k := h.kept (row := none) (gb_below hb) (fun g hg => by cases hg)

/-- Whether once in m times. -/
def OneOf (w : World) (B : Nat) (ao : Option Addr) (n cap k j : Nat) (e : Ending) (w' : World) : Prop :=
  ∃ b : Bool, e = .returned (.bool b) ∧ Drawn w w' B ao n cap k j
/-- Some short text was drawn. -/
def Texted (w : World) (B : Nat) (ao : Option Addr) (n cap k j : Nat) (e : Ending) (w' : World) : Prop :=
  ∃ x : ByteArray, x.size ≤ 20 ∧ e = .returned (.string x) ∧ Drawn w w' B ao n cap k j
/-- Short texts in a new block. -/
def ShortT (l : List ByteArray) : Prop := 0 < l.length ∧ l.length ≤ 100 ∧ ∀ x ∈ l, x.size ≤ 20
end Go.Proofs.Yteiefngamccapaa
