/- How a list of labels, a list of texts and a list of bytes that came in as arguments are read. -/
import Derived.Test.YtpbcgfgjdimpmaaDoorFrame
import Derived.Test.YtpbcgfgjdimpmaaDoorLists
import Derived.Deep.Slices
namespace Go.Proofs.YtpbcgfgjdimpmaaDoor
open Go.ChangeShapes Go.WideShapes Go.ChangeAt Go.RowKit Go.ChangeMaps Go.Deep

theorem cells87 : Tryd.prog.cellsOf 117 = 2 := by kernel_rfl
theorem cells9 : Tryd.prog.cellsOf 9 = 1 := by kernel_rfl

theorem read50 : Tryd.prog.readableRec 71 = true ∧ 71 < Tryd.prog.types.size := ⟨by kernel_rfl, of_decide_eq_true (by kernel_rfl)⟩
theorem tabsH {W : World} (h : laidMetH Tryd.prog [("loop.example/g00747/impl.nameSpans", Rows.laid_loop_example_g00747_impl_nameSpans), ("loop.example/g00747/impl.barredInWord", Rows.laid_loop_example_g00747_impl_barredInWord)] W) : Tabs W :=
  ⟨spans_of (laidMetH.filter (fun x => x.1 == "loop.example/g00747/impl.nameSpans") h), barred_of (laidMetH.filter (fun x => x.1 == "loop.example/g00747/impl.barredInWord") h)⟩

section
variable {H : Type} {enc : TypeId × Value → H} {w : World} {base : Nat} {spare : Nat → Bool} {held : Bool}

set_option maxRecDepth 100000 in
theorem two_texts {fuel : Nat} {cs : List Value} {x : DataW H × List MemPlace} (h : DataW.trod enc Tryd.prog w base spare held fuel 117 cs = some x) : ∃ a b : ByteArray, cs = [.string a, .string b] ∧ a.size ≤ maxLen ∧ b.size ≤ maxLen := by
  obtain ⟨xs, n, _, _, hcl, hlen, hf⟩ := DataW.trod_struct Tryd.underlying117 h
  have h0 := hf 0 _ rfl
  have h1 := hf 1 _ rfl
  rw [cells87] at hcl
  match cs, hcl, xs, hlen with
  | [c0, c1], _, [x0, x1], _ =>
    simp [cells9] at h0 h1
    obtain ⟨a, e0, _, s0⟩ := DataW.trod_string Tryd.underlying9 h0
    obtain ⟨b, e1, _, s1⟩ := DataW.trod_string Tryd.underlying9 h1
    simp at e0 e1
    exact ⟨a, b, by rw [e0, e1], s0, s1⟩

set_option maxRecDepth 100000 in
theorem open_labels {v : Value} {d : DataW H} {ps : List MemPlace} (hv : ∃ a l c, v = .slice a l c) (h : DataW.Trod enc Tryd.prog w base spare held 71 v d ps) : ∃ ao cap l, v = .slice ao l.length cap ∧ Fine l ∧ LRow w w.heap.size ao l := by
  obtain ⟨a, l, c, rfl⟩ := hv
  obtain ⟨fuel, hf⟩ := h
  rcases open_slice Tryd.underlying71 hf with ⟨hcs, _⟩ | ⟨a', len, cap, m, n, D, Pl, hcs, _, hl, hcm, hm, _, hx⟩
  · simp [Value.cells] at hcs
    obtain ⟨rfl, rfl, rfl⟩ := hcs
    exact ⟨none, 0, [], rfl, ⟨by simp, by simp⟩, LRow.nil _ _ _⟩
  · simp [Value.cells] at hcs
    obtain ⟨rfl, rfl, rfl⟩ := hcs
    have hlm : l ≤ m := by rw [hm]; split <;> omega
    obtain ⟨B, hB⟩ := choose_lt (α := Lab) (n := l) (p := fun i x => w.cell? (a'.add (i * 2)) = some (.string x.1) ∧ w.cell? (a'.add (i * 2 + 1)) = some (.string x.2) ∧ x.1.size ≤ maxLen ∧ x.2.size ≤ maxLen) (fun i hi => by
      obtain ⟨cs', hc, ht⟩ := hx i (by omega)
      rw [cells87] at hc
      obtain ⟨x, y, rfl, s0, s1⟩ := two_texts ht
      obtain ⟨_, _, hat⟩ := World.cells?_some hc
      have e0 := hat 0 (by omega)
      have e1 := hat 1 (by omega)
      rw [Go.Deep.add_add] at e0 e1
      exact ⟨(x, y), by simpa using e0, by simpa using e1, s0, s1⟩)
    have hk : ∀ (k : Nat) (h : k < ((List.range l).map B).length), ((List.range l).map B)[k] = B k := by intro k h; simp
    refine ⟨some a', c, (List.range l).map B, by simp, ⟨by simp; omega, ?_⟩, ?_⟩
    · intro x hx
      simp at hx
      obtain ⟨i, hi, rfl⟩ := hx
      exact (hB i hi).2.2
    · intro hp
      simp at hp
      obtain ⟨b, off, spot⟩ := a'
      have h0 := (hB 0 hp).1
      have hs : spot = none := by simpa [Addr.add] using World.cell?_spot h0
      subst hs
      refine ⟨b, off, rfl, ?_, ?_⟩
      · have : w.cell? ⟨b, off, none⟩ = some (.string (B 0).1) := by simpa [Addr.add] using h0
        exact World.block_lt_of_cell? w _ this
      · intro i hi
        rw [hk i hi]
        simp at hi
        have h1 := (hB i hi).1
        have h2 := (hB i hi).2.1
        rw [add_plain] at h1 h2
        exact ⟨h1, by rw [Nat.add_assoc]; exact h2⟩
end
end Go.Proofs.YtpbcgfgjdimpmaaDoor
