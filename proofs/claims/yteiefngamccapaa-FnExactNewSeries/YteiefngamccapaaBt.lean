/- A block of two cells, and what calls leave of blocks. Nothing of any program stands here. -/
import Derived.Test.YteiefngamccapaaSr
import Derived.Deep.Heap
namespace Go.Proofs.Yteiefngamccapaa
open Go.RowKit Go.Deep

/-- A block of two cells. -/
def Bt (W : World) (g : Nat) (y0 y1 : Value) : Prop := ∃ t, W.heap[g]? = some (.cells #[y0, y1] t)
theorem Bt.lt {w : World} {g : Nat} {a b : Value} (h : Bt w g a b) : g < w.heap.size := by
  obtain ⟨t, h⟩ := h
  exact (Array.getElem?_eq_some_iff.1 h).1
theorem Bt.below {w w' : World} {g : Nat} {a b : Value} (h : Bt w g a b) (hb : Below w.heap.size w w') : Bt w' g a b := by
  obtain ⟨t, h⟩ := h
  exact ⟨t, (hb.block _ (Array.getElem?_eq_some_iff.1 h).1).trans h⟩
theorem Bt.alloc {w : World} {g : Nat} {a b : Value} (h : Bt w g a b) (o : Obj) : Bt (w.alloc o) g a b := h.below ((Below.refl _ _).alloc (Nat.le_refl _) o)
theorem Bt.new (w : World) (a b : Value) (t : TypeId) : Bt (w.alloc (.cells #[a, b] t)) w.heap.size a b := ⟨t, blk_alloc_new w _⟩
theorem Bt.cells {w : World} {g : Nat} {a b : Value} (h : Bt w g a b) : w.cell? ⟨g, 0, none⟩ = some a ∧ w.cell? ⟨g, 1, none⟩ = some b ∧ w.frozen? ⟨g, 0, none⟩ = false ∧ w.frozen? ⟨g, 1, none⟩ = false := by
  obtain ⟨t, h⟩ := h
  refine ⟨?_, ?_, ?_, ?_⟩ <;> simp [World.cell?, World.frozen?, h]
theorem Bt.drew {W : World} {g : Nat} {a b : Value} (h : Bt W g a b) : Bt W.drew g a b := h
theorem gb_set (w : World) (g i : Nat) (u : Value) : w.grownBy (w.setCell ⟨g, i, none⟩ u) (some g) :=
  ⟨rfl, rfl, rfl, by simp, fun k _ hne => Below.heap_setCell _ _ _ k (fun e => hne (by rw [e]))⟩
theorem own_set {w : World} {base g i : Nat} {e : TypeId} {s n : Nat} {v u : Value} {xs : List Value} (h : w.ownsRow base e s v n xs) (hg : g < base) : (w.setCell ⟨g, i, none⟩ u).ownsRow base e s v n xs := own_other h hg (gb_set w g i u)
theorem own_lower {w : World} {base base' : Nat} {e : TypeId} {s : Nat} {v : Value} {n : Nat} {xs : List Value} (h : w.ownsRow base e s v n xs) (hB : base' ≤ base) : w.ownsRow base' e s v n xs := by
  obtain ⟨h0, ⟨h1, h2⟩ | ⟨g, cap, cur, h1, hge, hr⟩⟩ := h
  · exact ⟨h0, .inl ⟨h1, h2⟩⟩
  · exact ⟨h0, .inr ⟨g, cap, cur, h1, Nat.le_trans hB hge, hr⟩⟩
end Go.Proofs.Yteiefngamccapaa
