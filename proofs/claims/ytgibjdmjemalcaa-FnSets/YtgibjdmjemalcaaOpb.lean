/- How lists of bytes that came in as arguments are read. Nothing of the program stands here but the form of its memory. -/
import Derived.Test.YtgibjdmjemalcaaCuR
namespace Go.Proofs.Ytgibjdmjemalcaa
open Go.RowKit Go.Deep Go.ChangeShapes Go.WideShapes Go.ChangeAt

section
variable {H : Type} {enc : TypeId × Value → H} {P : Program} {w : World} {base : Nat} {spare : Nat → Bool} {held : Bool}

theorem open_bytes {t e : TypeId} {v : Value} {d : DataW H} {ps : List MemPlace} (ht : P.underlying t = some (.slice e)) (he : P.underlying e = some (.int .u8)) (hc : P.cellsOf e = 1)
    (hv : ∃ a l c, v = .slice a l c) (h : DataW.Trod enc P w base spare held t v d ps) : ∃ ao cap n, v = .slice ao n cap ∧ BRow w w.heap.size ao n := by
  obtain ⟨a, l, c, rfl⟩ := hv
  obtain ⟨fuel, hf⟩ := h
  rcases open_slice1 ht hc hf with ⟨hcs, _⟩ | ⟨a', len, cap, m, n, V, D, Pl, hcs, _, hl, _, hm, _, hx⟩
  · simp [Value.cells] at hcs
    obtain ⟨rfl, rfl, rfl⟩ := hcs
    exact ⟨none, 0, 0, rfl, fun hp => by omega⟩
  · simp [Value.cells] at hcs
    obtain ⟨rfl, rfl, rfl⟩ := hcs
    have hlm : l ≤ m := by rw [hm]; split <;> omega
    refine ⟨some a', c, l, rfl, fun hp => ?_⟩
    obtain ⟨b, off, spot⟩ := a'
    have h0 := (hx 0 (by omega)).1
    have hs : spot = none := by simpa [Addr.add] using World.cell?_spot h0
    subst hs
    refine ⟨b, off, rfl, ?_, fun i hi => ?_⟩
    · have : w.cell? ⟨b, off, none⟩ = some (V 0) := by simpa [Addr.add] using h0
      exact World.block_lt_of_cell? w _ this
    · obtain ⟨hi', hr⟩ := hx i (by omega)
      rw [add_plain] at hi'
      obtain ⟨z, hz, _, hw⟩ := DataW.trod_int he hr
      simp at hz
      have hb := bounds_u8 hw
      exact ⟨z, hb.1, hb.2, by rw [hi', hz]⟩
end
end Go.Proofs.Ytgibjdmjemalcaa
