/- What calls leave alone: at most some blocks turned; blocks of one to four cells; where a slice begins. Nothing of the program stands here. -/
import Derived.Test.YtabkjjbhnapgpaaRia
import Derived.Deep.Heap
namespace Go.Proofs.Ytabkjjbhnapgpaa
open Go.RowKit Go.Deep Go.ChangeShapes Go.WideShapes Go.ChangeAt

/-- At most the blocks of S, of those that were there, have turned; nothing was frozen or let go. -/
structure Only (S : Nat → Prop) (w w' : World) : Prop where
  os : w'.os = w.os
  tape : w'.tape = w.tape
  output : w'.output = w.output
  size : w.heap.size ≤ w'.heap.size
  block : ∀ i, i < w.heap.size → ¬ S i → w'.heap[i]? = w.heap[i]?
  frozen : ∀ p : Addr, p.block < w.heap.size → w'.frozen? p = w.frozen? p
theorem Only.refl (S : Nat → Prop) (w : World) : Only S w w := ⟨rfl, rfl, rfl, Nat.le_refl _, fun _ _ _ => rfl, fun _ _ => rfl⟩
theorem Only.trans {S : Nat → Prop} {a b c : World} (h : Only S a b) (k : Only S b c) : Only S a c :=
  ⟨k.os.trans h.os, k.tape.trans h.tape, k.output.trans h.output, Nat.le_trans h.size k.size, fun i hi hn => (k.block i (Nat.lt_of_lt_of_le hi h.size) hn).trans (h.block i hi hn), fun p hp => (k.frozen p (Nat.lt_of_lt_of_le hp h.size)).trans (h.frozen p hp)⟩
theorem Only.mono {S T : Nat → Prop} {a b : World} (h : Only S a b) (hs : ∀ i, i < a.heap.size → S i → T i) : Only T a b := ⟨h.os, h.tape, h.output, h.size, fun i hi hn => h.block i hi fun hS => hn (hs i hi hS), h.frozen⟩
theorem Only.of_below (S : Nat → Prop) {w w' : World} (h : Below w.heap.size w w') : Only S w w' := ⟨h.os, h.tape, h.output, h.size, fun i hi _ => h.block i hi, fun p hp => World.frozen?_of_block (h.block p.block hp)⟩
theorem Only.set {S : Nat → Prop} (w : World) {p : Addr} (u : Value) (hS : S p.block) : Only S w (w.setCell p u) :=
  ⟨rfl, rfl, rfl, by simp [World.setCell], fun i _ hn => Below.heap_setCell _ _ _ i (fun e => hn (by rw [e]; exact hS)), fun p' _ => World.frozen?_setCell _ _ _ _⟩
theorem Only.below {S : Nat → Prop} {B : Nat} {w w' : World} (h : Only S w w') (hS : ∀ i, i < w.heap.size → S i → B ≤ i) (hB : B ≤ w.heap.size) : Below B w w' :=
  ⟨h.os, h.tape, h.output, h.size, fun k hk => h.block k (by omega) fun hs => by have := hS k (by omega) hs; omega⟩
theorem Only.cell {S : Nat → Prop} {w w' : World} (h : Only S w w') {p : Addr} (hp : p.block < w.heap.size) (hn : ¬ S p.block) : w'.cell? p = w.cell? p := World.cell?_of_block (h.block p.block hp hn)
theorem Only.drew {S : Nat → Prop} {w w' : World} (h : Only S w w') : Only S w w'.drew := ⟨h.os, h.tape, h.output, h.size, h.block, h.frozen⟩

theorem set_other {w : World} {a b : Addr} {v : Value} (h : a ≠ b) : (w.setCell a v).cell? b = w.cell? b := World.cell?_setCell_other _ _ _ _ h
theorem set_same {w : World} {a : Addr} {v u : Value} (h : w.cell? a = some u) : (w.setCell a v).cell? a = some v := World.cell?_setCell_same _ _ _ h
theorem off_ne {b i j : Nat} (h : i ≠ j) : (⟨b, i, none⟩ : Addr) ≠ ⟨b, j, none⟩ := fun e => by injection e with _ e _; exact h e
theorem blk_ne {b c i j : Nat} (h : b ≠ c) : (⟨b, i, none⟩ : Addr) ≠ ⟨c, j, none⟩ := fun e => by injection e with e _ _; exact h e

/-- The block in which a slice lies. -/
def blk : Option Addr → Nat
  | some a => a.block
  | none => 0
theorem IRow.move {w w' : World} {B B' : Nat} {ao : Option Addr} {xs : List Int} (h : IRow w B ao xs) (hB : B ≤ B') (hk : 0 < xs.length → ∀ i, w'.cell? ⟨blk ao, i, none⟩ = w.cell? ⟨blk ao, i, none⟩) : IRow w' B' ao xs :=
  ⟨h.1, fun hp => by
    obtain ⟨b, off, rfl, hl, hc⟩ := h.2 hp
    exact ⟨b, off, rfl, Nat.lt_of_lt_of_le hl hB, fun i hi => (hk hp (off + i)).trans (hc i hi)⟩⟩
theorem IRow.lt {w : World} {B : Nat} {ao : Option Addr} {xs : List Int} (h : IRow w B ao xs) (hp : 0 < xs.length) : blk ao < B := by
  obtain ⟨b, off, rfl, hl, _⟩ := h.2 hp
  exact hl
theorem IRow.below {w w' : World} {B B' : Nat} {ao : Option Addr} {xs : List Int} (h : IRow w B ao xs) (hB : B ≤ B') (hb : Below B w w') : IRow w' B' ao xs :=
  h.move hB fun hp i => hb.cell (p := ⟨blk ao, i, none⟩) (h.lt hp)
theorem IRow.only {w w' : World} {S : Nat → Prop} {ao : Option Addr} {xs : List Int} (h : IRow w w.heap.size ao xs) (ho : Only S w w') (hn : 0 < xs.length → ¬ S (blk ao)) : IRow w' w'.heap.size ao xs :=
  h.move ho.size fun hp i => ho.cell (p := ⟨blk ao, i, none⟩) (h.lt hp) (hn hp)

/-- A block of three cells. -/
def B3 (W : World) (g : Nat) (y0 y1 y2 : Value) : Prop := ∃ t, W.heap[g]? = some (.cells #[y0, y1, y2] t)
theorem B3.lt {w : World} {g : Nat} {a b c : Value} (h : B3 w g a b c) : g < w.heap.size := by
  obtain ⟨t, h⟩ := h
  exact (Array.getElem?_eq_some_iff.1 h).1
theorem B3.below {w w' : World} {g : Nat} {a b c : Value} (h : B3 w g a b c) (hb : Below w.heap.size w w') : B3 w' g a b c := by
  obtain ⟨t, h⟩ := h
  exact ⟨t, (hb.block _ (Array.getElem?_eq_some_iff.1 h).1).trans h⟩
theorem B3.only {w w' : World} {S : Nat → Prop} {g : Nat} {a b c : Value} (h : B3 w g a b c) (ho : Only S w w') (hn : ¬ S g) : B3 w' g a b c := by
  obtain ⟨t, h⟩ := h
  exact ⟨t, (ho.block _ (Array.getElem?_eq_some_iff.1 h).1 hn).trans h⟩
theorem B3.alloc {w : World} {g : Nat} {a b c : Value} (h : B3 w g a b c) (o : Obj) : B3 (w.alloc o) g a b c := h.below ((Below.refl _ _).alloc (Nat.le_refl _) o)
theorem B3.new (w : World) (a b c : Value) (t : TypeId) : B3 (w.alloc (.cells #[a, b, c] t)) w.heap.size a b c := ⟨t, blk_alloc_new w _⟩
theorem B3.cells {w : World} {g : Nat} {a b c : Value} (h : B3 w g a b c) : w.cell? ⟨g, 0, none⟩ = some a ∧ w.cell? ⟨g, 1, none⟩ = some b ∧ w.cell? ⟨g, 2, none⟩ = some c := by
  obtain ⟨t, h⟩ := h
  refine ⟨?_, ?_, ?_⟩ <;> simp [World.cell?, h]
theorem B3.free {w : World} {g : Nat} {a b c : Value} (h : B3 w g a b c) (i : Nat) : w.frozen? ⟨g, i, none⟩ = false := by
  obtain ⟨t, h⟩ := h
  simp [World.frozen?, h]
theorem B3.set1 {w : World} {g : Nat} {a b c : Value} (h : B3 w g a b c) (x : Value) : B3 (w.setCell ⟨g, 1, none⟩ x) g a x c := by
  obtain ⟨t, h⟩ := h
  exact ⟨t, by simp [World.setCell, Array.getElem?_modify, h]⟩
theorem B3.set2 {w : World} {g : Nat} {a b c : Value} (h : B3 w g a b c) (x : Value) : B3 (w.setCell ⟨g, 2, none⟩ x) g a b x := by
  obtain ⟨t, h⟩ := h
  exact ⟨t, by simp [World.setCell, Array.getElem?_modify, h]⟩
theorem B3.other {w : World} {g : Nat} {a b c : Value} (h : B3 w g a b c) {p : Addr} (hp : g ≠ p.block) (x : Value) : B3 (w.setCell p x) g a b c := by
  obtain ⟨t, h⟩ := h
  exact ⟨t, (Below.heap_setCell _ _ _ _ hp).trans h⟩
theorem B3.drew {w : World} {g : Nat} {a b c : Value} (h : B3 w g a b c) : B3 w.drew g a b c := h
theorem RF.other {w : World} {g : Nat} {t : TypeId} {N n : Nat} {f : Nat → Int} (h : RF w g t N n f) {p : Addr} (u : Value) (hp : g ≠ p.block) : RF (w.setCell p u) g t N n f := h.of_block (Below.heap_setCell _ _ _ _ hp)
theorem IRow.drew {w : World} {ao : Option Addr} {xs : List Int} (h : IRow w w.heap.size ao xs) : IRow w.drew w.drew.heap.size ao xs := h
end Go.Proofs.Ytabkjjbhnapgpaa
