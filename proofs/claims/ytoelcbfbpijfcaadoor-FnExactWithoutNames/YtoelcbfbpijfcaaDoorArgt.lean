/- How a list of texts that came in as an argument is read. -/
import Derived.Test.YtoelcbfbpijfcaaDoorArgs
import Derived.Test.YtoelcbfbpijfcaaDoorTexts
namespace Go.Proofs.YtoelcbfbpijfcaaDoor
open Go.ChangeShapes Go.WideShapes Go.ChangeAt Go.RowKit Go.ChangeMaps Go.Deep

theorem read46 : Tryd.prog.readableRec 46 = true ∧ 46 < Tryd.prog.types.size := ⟨by kernel_rfl, of_decide_eq_true (by kernel_rfl)⟩

section
variable {H : Type} {enc : TypeId × Value → H} {w : World} {base : Nat} {spare : Nat → Bool} {held : Bool}
set_option maxRecDepth 100000 in
theorem open_texts {v : Value} {d : DataW H} {ps : List MemPlace} (hv : ∃ a l c, v = .slice a l c) (h : DataW.Trod enc Tryd.prog w base spare held 46 v d ps) : ∃ ao cap l, v = .slice ao l.length cap ∧ FineT l ∧ TRow w w.heap.size ao l := by
  obtain ⟨a, l, c, rfl⟩ := hv
  obtain ⟨fuel, hf⟩ := h
  rcases open_slice1 Tryd.underlying46 cells9 hf with ⟨hcs, _⟩ | ⟨a', len, cap, m, n, V, D, Pl, hcs, _, hl, hcm, hm, _, hx⟩
  · simp [Value.cells] at hcs
    obtain ⟨rfl, rfl, rfl⟩ := hcs
    exact ⟨none, 0, [], rfl, ⟨by simp, by simp⟩, fun h => absurd h (by simp)⟩
  · simp [Value.cells] at hcs
    obtain ⟨rfl, rfl, rfl⟩ := hcs
    have hlm : l ≤ m := by rw [hm]; split <;> omega
    obtain ⟨B, hB⟩ := choose_lt (α := ByteArray) (n := l) (p := fun i x => V i = .string x ∧ x.size ≤ maxLen) (fun i hi => by
      obtain ⟨s, hs, _, hz⟩ := DataW.trod_string Tryd.underlying9 (hx i (by omega)).2
      simp at hs
      exact ⟨s, hs, hz⟩)
    have hk : ∀ (k : Nat) (h : k < ((List.range l).map B).length), ((List.range l).map B)[k] = B k := by intro k h; simp
    refine ⟨some a', c, (List.range l).map B, by simp, ⟨by simp; omega, ?_⟩, ?_⟩
    · intro x hx
      simp at hx
      obtain ⟨i, hi, rfl⟩ := hx
      exact (hB i hi).2
    · intro hp
      simp at hp
      obtain ⟨b, off, spot⟩ := a'
      have h0 := (hx 0 (by omega)).1
      have hs : spot = none := by simpa [Addr.add] using World.cell?_spot h0
      subst hs
      refine ⟨b, off, rfl, ?_, ?_⟩
      · have : w.cell? ⟨b, off, none⟩ = some (V 0) := by simpa [Addr.add] using h0
        exact World.block_lt_of_cell? w _ this
      · intro i hi
        rw [hk i hi]
        simp at hi
        have h1 := (hx i (by omega)).1
        rw [add_plain] at h1
        rw [h1, (hB i hi).1]
end
end Go.Proofs.YtoelcbfbpijfcaaDoor
