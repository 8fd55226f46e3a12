/- How samples, chunks and lists of samples that came in as arguments are read. -/
import Derived.Test.YteiefngamccapaaSr
import Derived.Test.YteiefngamccapaaPkMath
import Derived.Deep.Slices
import Derived.OpenShut
import Derived.ChangeMaps5
namespace Go.Proofs.Yteiefngamccapaa
open Go.ChangeShapes Go.WideShapes Go.ChangeAt Go.RowKit Go.ChangeMaps Go.Deep

theorem cells70 : Try.prog.cellsOf 39 = 2 := by kernel_rfl
theorem cells66 : Try.prog.cellsOf 99 = 4 := by kernel_rfl
theorem cells3 : Try.prog.cellsOf 3 = 1 := by kernel_rfl
theorem cells9 : Try.prog.cellsOf 9 = 1 := by kernel_rfl
theorem cells44 : Try.prog.cellsOf 37 = 1 := by kernel_rfl
theorem read62 : Try.prog.readableRec 45 = true ∧ 45 < Try.prog.types.size := ⟨by kernel_rfl, of_decide_eq_true (by kernel_rfl)⟩
theorem read66 : Try.prog.readableRec 99 = true ∧ 99 < Try.prog.types.size := ⟨by kernel_rfl, of_decide_eq_true (by kernel_rfl)⟩
theorem read70 : Try.prog.readableRec 39 = true ∧ 39 < Try.prog.types.size := ⟨by kernel_rfl, of_decide_eq_true (by kernel_rfl)⟩
section
variable {H : Type} {enc : TypeId × Value → H} {w : World} {base : Nat} {spare : Nat → Bool} {held : Bool}

theorem trod_float {P : Program} {n : Nat} {t : TypeId} {v : Value} {x : DataW H × List MemPlace} (ht : P.underlying t = some (.float .f64)) (h : DataW.trod enc P w base spare held n t [v] = some x) : ∃ b, v = .float .f64 b ∧ b < 18446744073709551616 := by
  cases n with
  | zero => simp [DataW.trod] at h
  | succ n =>
    simp only [DataW.trod, ht] at h
    cases v <;> simp at h
    rename_i k b
    obtain ⟨⟨rfl, hw⟩, _⟩ := h
    exact ⟨b, rfl, by simpa [Lit.wf] using hw⟩

set_option maxRecDepth 100000 in
theorem two_cells {fuel : Nat} {cs : List Value} {x : DataW H × List MemPlace} (h : DataW.trod enc Try.prog w base spare held fuel 39 cs = some x) : ∃ (a : Int) (b : Nat), cs = [.int .i64 a, .float .f64 b] ∧ In64 a ∧ b < 18446744073709551616 := by
  obtain ⟨xs, n, _, _, hcl, hlen, hf⟩ := DataW.trod_struct Try.underlying39 h
  have h0 := hf 0 _ rfl
  have h1 := hf 1 _ rfl
  rw [cells70] at hcl
  match cs, hcl, xs, hlen with
  | [c0, c1], _, [x0, x1], _ =>
    simp [cells3, cells44] at h0 h1
    obtain ⟨a, e0, _, s0⟩ := DataW.trod_int Try.underlying3 h0
    obtain ⟨b, e1, s1⟩ := trod_float Try.underlying37 h1
    simp at e0
    exact ⟨a, b, by rw [e0, e1], bounds_i64 s0, s1⟩
set_option maxRecDepth 100000 in
theorem four_cells {fuel : Nat} {cs : List Value} {x : DataW H × List MemPlace} (h : DataW.trod enc Try.prog w base spare held fuel 99 cs = some x) : ∃ (s : ByteArray) (a b c : Int), cs = [.string s, .int .i64 a, .int .i64 b, .int .i64 c] ∧ s.size ≤ maxLen ∧ In64 a ∧ In64 b ∧ In64 c := by
  obtain ⟨xs, n, _, _, hcl, hlen, hf⟩ := DataW.trod_struct Try.underlying99 h
  have h0 := hf 0 _ rfl
  have h1 := hf 1 _ rfl
  have h2 := hf 2 _ rfl
  have h3 := hf 3 _ rfl
  rw [cells66] at hcl
  match cs, hcl, xs, hlen with
  | [c0, c1, c2, c3], _, [x0, x1, x2, x3], _ =>
    simp [cells3, cells9] at h0 h1 h2 h3
    obtain ⟨s, e0, _, s0⟩ := DataW.trod_string Try.underlying9 h0
    obtain ⟨a, e1, _, s1⟩ := DataW.trod_int Try.underlying3 h1
    obtain ⟨b, e2, _, s2⟩ := DataW.trod_int Try.underlying3 h2
    obtain ⟨c, e3, _, s3⟩ := DataW.trod_int Try.underlying3 h3
    simp at e0 e1 e2 e3
    exact ⟨s, a, b, c, by rw [e0, e1, e2, e3], s0, bounds_i64 s1, bounds_i64 s2, bounds_i64 s3⟩
theorem open_sample {v : Value} {d : DataW H} {ps : List MemPlace} (hv : ∃ cs, v = .agg cs ∧ cs.size = Try.prog.cellsOf 39) (h : DataW.Trod enc Try.prog w base spare held 39 v d ps) : ∃ (a : Int) (b : Nat), v = .agg #[.int .i64 a, .float .f64 b] ∧ In64 a ∧ b < 18446744073709551616 := by
  obtain ⟨cs, rfl, _⟩ := hv
  obtain ⟨fuel, hf⟩ := h
  obtain ⟨a, b, hc, h1, h2⟩ := two_cells hf
  refine ⟨a, b, ?_, h1, h2⟩
  simp [Value.cells] at hc
  obtain ⟨l⟩ := cs
  simp at hc
  subst hc
  rfl
theorem open_chunk {v : Value} {d : DataW H} {ps : List MemPlace} (hv : ∃ cs, v = .agg cs ∧ cs.size = Try.prog.cellsOf 99) (h : DataW.Trod enc Try.prog w base spare held 99 v d ps) : ∃ (s : ByteArray) (a b c : Int), v = .agg #[.string s, .int .i64 a, .int .i64 b, .int .i64 c] ∧ s.size ≤ maxLen := by
  obtain ⟨cs, rfl, _⟩ := hv
  obtain ⟨fuel, hf⟩ := h
  obtain ⟨s, a, b, c, hc, h1, _⟩ := four_cells hf
  refine ⟨s, a, b, c, ?_, h1⟩
  simp [Value.cells] at hc
  obtain ⟨l⟩ := cs
  simp at hc
  subst hc
  rfl
set_option maxRecDepth 100000 in
theorem open_samples {v : Value} {d : DataW H} {ps : List MemPlace} (hv : ∃ a l c, v = .slice a l c) (h : DataW.Trod enc Try.prog w base spare held 45 v d ps) : ∃ ao cap l, v = .slice ao l.length cap ∧ l.length ≤ maxLen ∧ FitS l ∧ SRow w w.heap.size ao l := by
  obtain ⟨a, l, c, rfl⟩ := hv
  obtain ⟨fuel, hf⟩ := h
  rcases open_slice Try.underlying45 hf with ⟨hcs, _⟩ | ⟨a', len, cap, m, n, D, Pl, hcs, _, hl, hcm, hm, _, hx⟩
  · simp [Value.cells] at hcs
    obtain ⟨rfl, rfl, rfl⟩ := hcs
    exact ⟨none, 0, [], rfl, by simp, FitS.nil, SRow.nil _ _ _⟩
  · simp [Value.cells] at hcs
    obtain ⟨rfl, rfl, rfl⟩ := hcs
    have hlm : l ≤ m := by rw [hm]; split <;> omega
    obtain ⟨B, hB⟩ := choose_lt (α := Smp) (n := l) (p := fun i x => w.cell? (a'.add (i * 2)) = some (.int .i64 x.1) ∧ w.cell? (a'.add (i * 2 + 1)) = some (.float .f64 x.2) ∧ In64 x.1 ∧ x.2 < 18446744073709551616) (fun i hi => by
      obtain ⟨cs', hc, ht⟩ := hx i (by omega)
      rw [cells70] at hc
      obtain ⟨x, y, rfl, s0, s1⟩ := two_cells ht
      obtain ⟨_, _, hat⟩ := World.cells?_some hc
      have e0 := hat 0 (by omega)
      have e1 := hat 1 (by omega)
      rw [Go.Deep.add_add] at e0 e1
      exact ⟨(x, y), by simpa using e0, by simpa using e1, s0, s1⟩)
    have hk : ∀ (k : Nat) (h : k < ((List.range l).map B).length), ((List.range l).map B)[k] = B k := by intro k h; simp
    refine ⟨some a', c, (List.range l).map B, by simp, by simp; omega, ?_, ?_⟩
    · intro x hx
      simp at hx
      obtain ⟨i, hi, rfl⟩ := hx
      exact (hB i hi).2.2
    · intro hp
      simp at hp
      obtain ⟨b, off, spot⟩ := a'
      have h0 := (hB 0 hp).1
      have hs : spot = none := by simpa [Addr.add] using World.cell?_spot h0
      subst hs
      refine ⟨b, off, rfl, ?_, ?_⟩
      · have : w.cell? ⟨b, off, none⟩ = some (.int .i64 (B 0).1) := by simpa [Addr.add] using h0
        exact World.block_lt_of_cell? w _ this
      · intro i hi
        rw [hk i hi]
        simp at hi
        have h1 := (hB i hi).1
        have h2 := (hB i hi).2.1
        rw [add_plain] at h1 h2
        exact ⟨h1, by rw [Nat.add_assoc]; exact h2⟩
end
end Go.Proofs.Yteiefngamccapaa
