/- A block of two cells, and what calls leave of blocks. Nothing of any program stands here. -/
import Derived.Test.YteiefngamccapaaCr
import Derived.Test.YteiefngamccapaaAs
import Derived.Test.YteiefngamccapaaSr
import Derived.Deep.Heap
namespace Go.Proofs.Yteiefngamccapaa
open Go.ChangeShapes Go.WideShapes Go.ChangeAt Go.RowKit Go.ChangeMaps Go.Deep

theorem cellsSer : Try.prog.cellsOf 24 = 2 := by kernel_rfl
theorem cellsSl : Try.prog.cellsOf 22 = 1 := by kernel_rfl
theorem cellsCh : Try.prog.cellsOf 99 = 4 := by kernel_rfl
section
variable {H : Type} {enc : TypeId × Value → H} {w : World} {base : Nat} {spare : Nat → Bool} {held : Bool}

set_option maxRecDepth 100000 in
theorem ser_cells {fuel : Nat} {cs : List Value} {x : DataW H × List MemPlace} (h : DataW.trod enc Try.prog w base spare held fuel 24 cs = some x) : ∃ (c0 : Value) (fl : Int) (n : Nat) (x0 : DataW H × List MemPlace), cs = [c0, .int .i64 fl] ∧ DataW.trod enc Try.prog w base spare held n 22 [c0] = some x0 := by
  obtain ⟨xs, n, _, _, hcl, hlen, hf⟩ := DataW.trod_struct Try.underlying24 h
  have h0 := hf 0 _ rfl
  have h1 := hf 1 _ rfl
  rw [cellsSer] at hcl
  match cs, hcl, xs, hlen with
  | [c0, c1], _, [x0, x1], _ =>
    simp [cells3, cellsSl] at h0 h1
    obtain ⟨a, e1, _, s1⟩ := DataW.trod_int Try.underlying3 h1
    simp at e1
    exact ⟨c0, a, n, x0, by rw [e1], h0⟩
set_option maxRecDepth 100000 in
theorem open_series {v : Value} {d : DataW H} {ps : List MemPlace} (hv : ∃ cs, v = .agg cs ∧ cs.size = Try.prog.cellsOf 24) (h : DataW.Trod enc Try.prog w base spare held 24 v d ps) : ∃ ao cap l fl, v = .agg #[.slice ao l.length cap, .int .i64 fl] ∧ l.length ≤ maxLen ∧ FitC l maxLen ∧ CRow w w.heap.size ao l := by
  obtain ⟨cs, rfl, _⟩ := hv
  obtain ⟨fuel, hf⟩ := h
  obtain ⟨c0, fl, n, x0, hcs, h2⟩ := ser_cells hf
  simp [Value.cells] at hcs
  clear hf
  obtain ⟨csl⟩ := cs
  simp at hcs
  subst hcs
  rcases open_slice Try.underlying22 h2 with ⟨hcs, _⟩ | ⟨a', len, cap, m, n', D, Pl, hcs, _, hl, hcm, hm, _, hx⟩
  · simp at hcs
    subst hcs
    exact ⟨none, 0, [], fl, rfl, by simp, fun c hc => by simp at hc, GR.nil _ _ _⟩
  · simp at hcs
    subst hcs
    have hlm : len ≤ m := by rw [hm]; split <;> omega
    obtain ⟨B, hB⟩ := choose_lt (α := Chk) (n := len) (p := fun i x => (w.cell? (a'.add (i * 4)) = some (.string x.1) ∧ w.cell? (a'.add (i * 4 + 1)) = some (.int .i64 x.2.1) ∧ w.cell? (a'.add (i * 4 + 2)) = some (.int .i64 x.2.2.1) ∧ w.cell? (a'.add (i * 4 + 3)) = some (.int .i64 x.2.2.2)) ∧ x.1.size ≤ maxLen) (fun i hi => by
      obtain ⟨cs', hc, ht⟩ := hx i (by omega)
      rw [cellsCh] at hc
      obtain ⟨s, x, y, z, rfl, s0, _⟩ := four_cells ht
      obtain ⟨_, _, hat⟩ := World.cells?_some hc
      have e0 := hat 0 (by omega)
      have e1 := hat 1 (by omega)
      have e2 := hat 2 (by omega)
      have e3 := hat 3 (by omega)
      rw [Go.Deep.add_add] at e0 e1 e2 e3
      exact ⟨(s, x, y, z), ⟨by simpa using e0, by simpa using e1, by simpa using e2, by simpa using e3⟩, s0⟩)
    have hk : ∀ (k : Nat) (h : k < ((List.range len).map B).length), ((List.range len).map B)[k] = B k := by intro k h; simp
    refine ⟨some a', cap, (List.range len).map B, fl, by simp, by simp; omega, ?_, ?_⟩
    · intro x hx
      simp at hx
      obtain ⟨i, hi, rfl⟩ := hx
      exact (hB i hi).2
    · intro hp
      simp at hp
      obtain ⟨b, off, spot⟩ := a'
      have h0 := (hB 0 hp).1.1
      have hs : spot = none := by simpa [Addr.add] using World.cell?_spot h0
      subst hs
      refine ⟨b, off, rfl, ?_, ?_⟩
      · have : w.cell? ⟨b, off, none⟩ = some (.string (B 0).1) := by simpa [Addr.add] using h0
        exact World.block_lt_of_cell? w _ this
      · intro i hi j v hv
        rw [hk i hi] at hv
        simp at hi
        obtain ⟨⟨g0, g1, g2, g3⟩, _⟩ := hB i hi
        rw [add_plain] at g0 g1 g2 g3
        have hj : j < 4 := (List.getElem?_eq_some_iff.1 hv).1
        match j, hj, hv with
        | 0, _, hv => injection hv with hv; subst hv; exact g0
        | 1, _, hv => injection hv with hv; subst hv; rw [Nat.add_assoc]; exact g1
        | 2, _, hv => injection hv with hv; subst hv; rw [Nat.add_assoc]; exact g2
        | 3, _, hv => injection hv with hv; subst hv; rw [Nat.add_assoc]; exact g3
end
end Go.Proofs.Yteiefngamccapaa
namespace Go.Proofs.Yteiefngamccapaa
open Go.RowKit Go.Deep

/-- A block of two cells. -/
def Bt (W : World) (g : Nat) (y0 y1 : Value) : Prop := ∃ t, W.heap[g]? = some (.cells #[y0, y1] t)
theorem Bt.lt {w : World} {g : Nat} {a b : Value} (h : Bt w g a b) : g < w.heap.size := by
  obtain ⟨t, h⟩ := h
  exact (Array.getElem?_eq_some_iff.1 h).1
theorem Bt.below {w w' : World} {g : Nat} {a b : Value} (h : Bt w g a b) (hb : Below w.heap.size w w') : Bt w' g a b := by
  obtain ⟨t, h⟩ := h
  exact ⟨t, (hb.block _ (Array.getElem?_eq_some_iff.1 h).1).trans h⟩
theorem Bt.alloc {w : World} {g : Nat} {a b : Value} (h : Bt w g a b) (o : Obj) : Bt (w.alloc o) g a b := h.below ((Below.refl _ _).alloc (Nat.le_refl _) o)
theorem Bt.new (w : World) (a b : Value) (t : TypeId) : Bt (w.alloc (.cells #[a, b] t)) w.heap.size a b := ⟨t, blk_alloc_new w _⟩
theorem Bt.cells {w : World} {g : Nat} {a b : Value} (h : Bt w g a b) : w.cell? ⟨g, 0, none⟩ = some a ∧ w.cell? ⟨g, 1, none⟩ = some b ∧ w.frozen? ⟨g, 0, none⟩ = false ∧ w.frozen? ⟨g, 1, none⟩ = false := by
  obtain ⟨t, h⟩ := h
  refine ⟨?_, ?_, ?_, ?_⟩ <;> simp [World.cell?, World.frozen?, h]
theorem Bt.drew {W : World} {g : Nat} {a b : Value} (h : Bt W g a b) : Bt W.drew g a b := h
theorem gb_set (w : World) (g i : Nat) (u : Value) : w.grownBy (w.setCell ⟨g, i, none⟩ u) (some g) :=
  ⟨rfl, rfl, rfl, by simp, fun k _ hne => Below.heap_setCell _ _ _ k (fun e => hne (by rw [e]))⟩
theorem own_set {w : World} {base g i : Nat} {e : TypeId} {s n : Nat} {v u : Value} {xs : List Value} (h : w.ownsRow base e s v n xs) (hg : g < base) : (w.setCell ⟨g, i, none⟩ u).ownsRow base e s v n xs := own_other h hg (gb_set w g i u)
theorem own_lower {w : World} {base base' : Nat} {e : TypeId} {s : Nat} {v : Value} {n : Nat} {xs : List Value} (h : w.ownsRow base e s v n xs) (hB : base' ≤ base) : w.ownsRow base' e s v n xs := by
  obtain ⟨h0, ⟨h1, h2⟩ | ⟨g, cap, cur, h1, hge, hr⟩⟩ := h
  · exact ⟨h0, .inl ⟨h1, h2⟩⟩
  · exact ⟨h0, .inr ⟨g, cap, cur, h1, Nat.le_trans hB hge, hr⟩⟩
end Go.Proofs.Yteiefngamccapaa
