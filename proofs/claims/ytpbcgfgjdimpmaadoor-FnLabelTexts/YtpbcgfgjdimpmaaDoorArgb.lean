/- How a list of bytes that came in as an argument is read: a slice below the heap's end whose elements are numbers of 0..255. -/
import Derived.Test.YtpbcgfgjdimpmaaDoorArgs
import Derived.Test.YtpbcgfgjdimpmaaDoorCur
namespace Go.Proofs.YtpbcgfgjdimpmaaDoor
open Go.RowKit Go.Deep Go.ChangeShapes Go.WideShapes Go.ChangeAt

theorem cells5 : Tryd.prog.cellsOf 5 = 1 := by kernel_rfl
theorem read22 : Tryd.prog.readableRec 22 = true ∧ 22 < Tryd.prog.types.size := ⟨by kernel_rfl, of_decide_eq_true (by kernel_rfl)⟩
section
variable {H : Type} {enc : TypeId × Value → H} {w : World} {base : Nat} {spare : Nat → Bool} {held : Bool}
set_option maxRecDepth 100000 in
theorem open_bytes {v : Value} {d : DataW H} {ps : List MemPlace} (hv : ∃ a l c, v = .slice a l c) (h : DataW.Trod enc Tryd.prog w base spare held 22 v d ps) : ∃ ao cap n, v = .slice ao n cap ∧ BRow w w.heap.size ao n := by
  obtain ⟨a, l, c, rfl⟩ := hv
  obtain ⟨fuel, hf⟩ := h
  rcases open_slice1 Tryd.underlying22 cells5 hf with ⟨hcs, _⟩ | ⟨a', len, cap, m, n, V, D, Pl, hcs, _, hl, _, hm, _, hx⟩
  · simp [Value.cells] at hcs
    obtain ⟨rfl, rfl, rfl⟩ := hcs
    exact ⟨none, 0, 0, rfl, fun hp => by omega⟩
  · simp [Value.cells] at hcs
    obtain ⟨rfl, rfl, rfl⟩ := hcs
    have hlm : l ≤ m := by rw [hm]; split <;> omega
    refine ⟨some a', c, l, rfl, fun hp => ?_⟩
    obtain ⟨b, off, spot⟩ := a'
    have h0 := (hx 0 (by omega)).1
    have hs : spot = none := by simpa [Addr.add] using World.cell?_spot h0
    subst hs
    refine ⟨b, off, rfl, ?_, fun i hi => ?_⟩
    · have : w.cell? ⟨b, off, none⟩ = some (V 0) := by simpa [Addr.add] using h0
      exact World.block_lt_of_cell? w _ this
    · obtain ⟨hi', hr⟩ := hx i (by omega)
      rw [add_plain] at hi'
      obtain ⟨z, hz, _, hw⟩ := DataW.trod_int Tryd.underlying5 hr
      simp at hz
      have hb := bounds_u8 hw
      exact ⟨z, hb.1, hb.2, by rw [hi', hz]⟩
end
end Go.Proofs.YtpbcgfgjdimpmaaDoor
