/- How a list of float64 that came in as an argument is read: a slice that holds the bits of its elements. Nothing of the program stands here but the form of its memory. -/
import Derived.Test.YtkpfjjkblfjodaaSums
import Derived.Deep.Slices
import Derived.ProofKit
namespace Go.Proofs.Ytkpfjjkblfjodaa
open Go.RowKit Go.Deep Go.ChangeShapes Go.WideShapes Go.ChangeAt

section
variable {H : Type} {enc : TypeId × Value → H} {P : Program} {w : World} {base : Nat} {spare : Nat → Bool} {held : Bool}

theorem trod_float {n : Nat} {t : TypeId} {v : Value} {x : DataW H × List MemPlace} (ht : P.underlying t = some (.float .f64)) (h : DataW.trod enc P w base spare held n t [v] = some x) : ∃ b, v = .float .f64 b ∧ b < 18446744073709551616 := by
  cases n with
  | zero => simp [DataW.trod] at h
  | succ n =>
    simp only [DataW.trod, ht] at h
    cases v <;> simp at h
    rename_i k b
    obtain ⟨⟨rfl, hw⟩, _⟩ := h
    exact ⟨b, rfl, by simpa [Lit.wf] using hw⟩

theorem open_floats {t e : TypeId} {v : Value} {d : DataW H} {ps : List MemPlace} (ht : P.underlying t = some (.slice e)) (he : P.underlying e = some (.float .f64)) (hc : P.cellsOf e = 1)
    (hv : ∃ a l c, v = .slice a l c) (h : DataW.Trod enc P w base spare held t v d ps) : ∃ ao cap xs, v = .slice ao xs.length cap ∧ FRow w ao xs := by
  obtain ⟨a, l, c, rfl⟩ := hv
  obtain ⟨fuel, hf⟩ := h
  rcases open_slice1 ht hc hf with ⟨hcs, _⟩ | ⟨a', len, cap, m, n, V, D, Pl, hcs, _, hl, _, hm, _, hx⟩
  · simp [Value.cells] at hcs
    obtain ⟨rfl, rfl, rfl⟩ := hcs
    exact ⟨none, 0, [], rfl, fun x hx => by simp at hx, fun hp => by simp at hp⟩
  · simp [Value.cells] at hcs
    obtain ⟨rfl, rfl, rfl⟩ := hcs
    have hlm : l ≤ m := by rw [hm]; split <;> omega
    obtain ⟨B, hB⟩ := choose_lt (α := Nat) (n := l) (p := fun i b => V i = .float .f64 b ∧ b < 18446744073709551616) (fun i hi => trod_float he (hx i (by omega)).2)
    refine ⟨some a', c, (List.range l).map B, by simp, ?_, ?_⟩
    · intro x hx
      simp at hx
      obtain ⟨i, hi, rfl⟩ := hx
      exact (hB i hi).2
    · intro hp
      simp at hp
      obtain ⟨b, off, spot⟩ := a'
      have h0 := (hx 0 (by omega)).1
      have hs : spot = none := by simpa [Addr.add] using World.cell?_spot h0
      subst hs
      refine ⟨b, off, rfl, ?_, ?_⟩
      · have : w.cell? ⟨b, off, none⟩ = some (V 0) := by simpa [Addr.add] using h0
        exact World.block_lt_of_cell? w _ this
      · intro i hi
        simp at hi
        have hi' := (hx i (by omega)).1
        rw [add_plain] at hi'
        rw [hi', (hB i hi).1]
        simp [List.getD, hi]
end
end Go.Proofs.Ytkpfjjkblfjodaa
