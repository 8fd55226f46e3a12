/- How marks and views that came in as arguments are read: rows within rows. -/
import Derived.Test.YtabkjjbhnapgpaaVx
import Derived.WalkKit
import Derived.ProofKit
import Derived.OpenShut
namespace Go.Proofs.Ytabkjjbhnapgpaa
open Go.ChangeShapes Go.WideShapes Go.ChangeAt Go.RowKit Go.ChangeMaps Go.Deep

theorem cellsI : Try.prog.cellsOf 3 = 1 := by kernel_rfl
theorem cellsIS : Try.prog.cellsOf 22 = 1 := by kernel_rfl
theorem cellsVS : Try.prog.cellsOf 23 = 1 := by kernel_rfl
theorem cellsV : Try.prog.cellsOf 48 = 3 := by kernel_rfl
instance vw_one : Inhabited Vw := ⟨⟨0, 0, none, 0, []⟩⟩
section
variable {H : Type} {enc : TypeId × Value → H} {w : World} {base : Nat} {spare : Nat → Bool} {held : Bool}

theorem ints_cells {fuel : Nat} {cs : List Value} {x : DataW H × List MemPlace} (h : DataW.trod enc Try.prog w base spare held fuel 22 cs = some x) : ∃ (ao : Option Addr) (cap : Nat) (xs : List Int), cs = [.slice ao xs.length cap] ∧ xs.length ≤ maxLen ∧ IRow w w.heap.size ao xs := by
  rcases open_slice1 Try.underlying22 cellsI h with ⟨hcs, _⟩ | ⟨a', len, cap, m, n, V, D, Pl, hcs, _, hl, hcm, hm, _, hx⟩
  · exact ⟨none, 0, [], by simpa using hcs, by simp, fun x hx => by simp at hx, fun hp => by simp at hp⟩
  · have hlm : len ≤ m := by rw [hm]; split <;> omega
    obtain ⟨B, hB⟩ := choose_lt (α := Int) (n := len) (p := fun i b => V i = .int .i64 b ∧ In64 b) (fun i hi => by
      obtain ⟨z, hz, _, hw⟩ := DataW.trod_int Try.underlying3 (hx i (by omega)).2
      simp at hz
      exact ⟨z, hz, bounds_i64 hw⟩)
    refine ⟨some a', cap, (List.range len).map B, by simpa using hcs, by simp; omega, ?_, ?_⟩
    · intro x hx
      simp at hx
      obtain ⟨i, hi, rfl⟩ := hx
      exact (hB i hi).2
    · intro hp
      simp at hp
      obtain ⟨b, off, spot⟩ := a'
      have h0 := (hx 0 (by omega)).1
      have hs : spot = none := by simpa [Addr.add] using World.cell?_spot h0
      subst hs
      refine ⟨b, off, rfl, ?_, ?_⟩
      · have : w.cell? ⟨b, off, none⟩ = some (V 0) := by simpa [Addr.add] using h0
        exact World.block_lt_of_cell? w _ this
      · intro i hi
        simp at hi
        have hi' := (hx i (by omega)).1
        rw [add_plain] at hi'
        rw [hi', (hB i hi).1]
        simp
set_option maxRecDepth 100000 in
theorem view_cells {fuel : Nat} {cs : List Value} {x : DataW H × List MemPlace} (h : DataW.trod enc Try.prog w base spare held fuel 48 cs = some x) : ∃ v : Vw, cs = vC v ∧ v.xs.length ≤ maxLen ∧ IRow w w.heap.size v.ao v.xs := by
  obtain ⟨xs, n, _, _, hcl, hlen, hf⟩ := DataW.trod_struct Try.underlying48 h
  have h0 := hf 0 _ rfl
  have h1 := hf 1 _ rfl
  have h2 := hf 2 _ rfl
  rw [cellsV] at hcl
  match cs, hcl, xs, hlen with
  | [c0, c1, c2], _, [x0, x1, x2], _ =>
    simp [cellsI, cellsIS] at h0 h1 h2
    obtain ⟨a, e0, _, _⟩ := DataW.trod_int Try.underlying3 h0
    obtain ⟨b, e1, _, _⟩ := DataW.trod_int Try.underlying3 h1
    obtain ⟨ao, cap, l, e2, hl, hi⟩ := ints_cells h2
    simp at e0 e1 e2
    exact ⟨⟨a, b, ao, cap, l⟩, by rw [e0, e1, e2]; rfl, hl, hi⟩
set_option maxRecDepth 100000 in
theorem views_cells {fuel : Nat} {cs : List Value} {x : DataW H × List MemPlace} (h : DataW.trod enc Try.prog w base spare held fuel 23 cs = some x) : ∃ (ao : Option Addr) (cap n : Nat) (g : Nat → Vw), cs = [.slice ao n cap] ∧ n ≤ maxLen ∧ (∀ k, k < n → (g k).xs.length ≤ maxLen) ∧ VF vC w w.heap.size ao n g := by
  rcases open_slice Try.underlying23 h with ⟨hcs, _⟩ | ⟨a', len, cap, m, n', D, Pl, hcs, _, hl, hcm, hm, _, hx⟩
  · exact ⟨none, 0, 0, fun _ => ⟨0, 0, none, 0, []⟩, by simpa using hcs, by simp, fun k hk => absurd hk (by omega), VF.nil _ _ _ _ _⟩
  · have hlm : len ≤ m := by rw [hm]; split <;> omega
    obtain ⟨B, hB⟩ := choose_lt (α := Vw) (n := len) (p := fun i v => (∀ j u, (vC v)[j]? = some u → w.cell? (a'.add (i * 3 + j)) = some u) ∧ v.xs.length ≤ maxLen ∧ IRow w w.heap.size v.ao v.xs) (fun i hi => by
      obtain ⟨cs', hc, ht⟩ := hx i (by omega)
      rw [cellsV] at hc
      obtain ⟨v, rfl, h1, h2⟩ := view_cells ht
      obtain ⟨_, _, hat⟩ := World.cells?_some hc
      refine ⟨v, fun j u hu => ?_, h1, h2⟩
      have hj : j < 3 := by have h3 := (List.getElem?_eq_some_iff.1 hu).1; simpa [vC] using h3
      have e := hat j hj
      rw [Go.Deep.add_add] at e
      rw [e]; exact hu)
    refine ⟨some a', cap, len, B, by simpa using hcs, by omega, fun k hk => (hB k hk).2.1, fun hp => ?_, fun k hk => (hB k hk).2.2⟩
    obtain ⟨b, off, spot⟩ := a'
    have h0 := (hB 0 hp).1 0 _ rfl
    have hs : spot = none := by simpa [Addr.add] using World.cell?_spot h0
    subst hs
    refine ⟨b, off, rfl, ?_, fun k hk j v hv => ?_⟩
    · have : w.cell? ⟨b, off, none⟩ = some (.int .i64 (B 0).id) := by simpa [Addr.add] using h0
      exact World.block_lt_of_cell? w _ this
    · have := (hB k hk).1 j v hv
      rw [add_plain] at this
      rw [Nat.add_assoc]; exact this
set_option maxRecDepth 100000 in
theorem open_view {v : Value} {d : DataW H} {ps : List MemPlace} (hv : ∃ cs, v = .agg cs ∧ cs.size = Try.prog.cellsOf 48) (h : DataW.Trod enc Try.prog w base spare held 48 v d ps) : ∃ u : Vw, v = .agg #[.int .i64 u.id, .int .i64 u.top, .slice u.ao u.xs.length u.cap] ∧ u.xs.length ≤ maxLen ∧ IRow w w.heap.size u.ao u.xs := by
  obtain ⟨cs, rfl, _⟩ := hv
  obtain ⟨fuel, hf⟩ := h
  obtain ⟨u, hcs, h1, h2⟩ := view_cells hf
  simp [Value.cells] at hcs
  obtain ⟨csl⟩ := cs
  simp at hcs
  subst hcs
  exact ⟨u, rfl, h1, h2⟩
set_option maxRecDepth 100000 in
theorem open_marks {v : Value} {d : DataW H} {ps : List MemPlace} (hv : ∃ cs, v = .agg cs ∧ cs.size = Try.prog.cellsOf 25) (h : DataW.Trod enc Try.prog w base spare held 25 v d ps) : ∃ (last : Int) (oo : Option Addr) (oc : Nat) (op : List Int) (ro : Option Addr) (rc n : Nat) (g : Nat → Vw), v = .agg #[.int .i64 last, .slice oo op.length oc, .slice ro n rc] ∧ op.length ≤ maxLen ∧ n ≤ maxLen ∧ (∀ k, k < n → (g k).xs.length ≤ maxLen) ∧ MH w w.heap.size oo op ro n g := by
  obtain ⟨cs, rfl, hsz⟩ := hv
  obtain ⟨fuel, hf⟩ := h
  obtain ⟨xs, n, _, _, hcl, hlen, hf⟩ := DataW.trod_struct Try.underlying25 hf
  have h0 := hf 0 _ rfl
  have h1 := hf 1 _ rfl
  have h2 := hf 2 _ rfl
  have h3 : Try.prog.cellsOf 25 = 3 := by kernel_rfl
  rw [h3] at hcl
  obtain ⟨csl⟩ := cs
  simp only [Value.cells] at hcl h0 h1 h2
  match csl, hcl, xs, hlen with
  | [c0, c1, c2], _, [x0, x1, x2], _ =>
    simp [cellsI, cellsIS, cellsVS] at h0 h1 h2
    obtain ⟨a, e0, _, _⟩ := DataW.trod_int Try.underlying3 h0
    obtain ⟨oo, oc, op, e1, hl, hi⟩ := ints_cells h1
    obtain ⟨ro, rc, n, g, e2, hn, hm, hv⟩ := views_cells h2
    simp at e0 e1 e2
    exact ⟨a, oo, oc, op, ro, rc, n, g, by rw [e0, e1, e2], hl, hn, hm, hi, hv⟩
end
end Go.Proofs.Ytabkjjbhnapgpaa
