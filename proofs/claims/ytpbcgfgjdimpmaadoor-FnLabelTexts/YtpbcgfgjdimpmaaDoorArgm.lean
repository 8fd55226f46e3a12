/- How a matcher and a list of matchers that came in as arguments are read; the tables and the library's bound out of the row's premises; a world for the witnesses that holds all tables. -/
import Derived.Test.YtpbcgfgjdimpmaaDoorArgs
import Derived.Test.YtpbcgfgjdimpmaaDoorBarr
import Derived.Shelf.Vars
namespace Go.Proofs.YtpbcgfgjdimpmaaDoor
open Go.ChangeShapes Go.WideShapes Go.ChangeAt Go.RowKit Go.ChangeMaps Go.Deep

theorem cells72 : Tryd.prog.cellsOf 72 = 3 := by kernel_rfl
theorem cells3 : Tryd.prog.cellsOf 3 = 1 := by kernel_rfl
theorem read72 : Tryd.prog.readableRec 72 = true ∧ 72 < Tryd.prog.types.size := ⟨by kernel_rfl, of_decide_eq_true (by kernel_rfl)⟩
theorem read65 : Tryd.prog.readableRec 65 = true ∧ 65 < Tryd.prog.types.size := ⟨by kernel_rfl, of_decide_eq_true (by kernel_rfl)⟩
theorem maxH {W : World} (h : W.ShapedOpen Tryd.prog) : MaxC W :=
  cell_of_shapedOpen_int (g := 2) (t := 3) (zero := #[.int .i64 0]) h (of_decide_eq_true (by kernel_rfl)) (by kernel_rfl) rfl (by kernel_rfl) (by kernel_rfl) Tryd.underlying3
theorem barH {W : World} (h : laidMetH Tryd.prog Rows.fnExactIsLikeRow.laid W) : Barred W :=
  barred_of (laidMetH.filter (fun x => x.1 == "loop.example/g00747/impl.barredInWord") h)
theorem tabsH4 {W : World} (h : laidMetH Tryd.prog Rows.fnMatchesRow.laid W) : Tabs W :=
  ⟨spans_of (laidMetH.filter (fun x => x.1 == "loop.example/g00747/impl.nameSpans") h), barred_of (laidMetH.filter (fun x => x.1 == "loop.example/g00747/impl.barredInWord") h)⟩
theorem readBar : ∀ n ∈ ["loop.example/g00747/impl.barredInWord"], ∀ g t, Tryd.prog.globalNamed n = some g → (Tryd.prog.globals[g]?).map (·.type) = some t → Tryd.prog.readableRec t = true ∧ t < Tryd.prog.types.size := by
  intro n hn g t h1 h2
  simp at hn
  subst hn
  obtain rfl := Option.some.inj (gBarred.symm.trans h1)
  obtain rfl := Option.some.inj (gBarredType.symm.trans h2)
  exact read120
/-- A world for the witnesses: all tables hold what their initialisers lay. -/
noncomputable def worldU (os : Os) : World :=
  { worldT os with
    heap := ((worldT os).heap.modify 3 (setRow (Go.Pinned.utf8FirstZ.map fun (x : Nat) => Value.int .u8 x).toArray)).modify 4 (setRow (([128, 191, 160, 191, 128, 159, 144, 191, 128, 143] ++ List.replicate 22 0).map fun (x : Nat) => Value.int .u8 x).toArray) }

section
variable {H : Type} {enc : TypeId × Value → H} {w : World} {base : Nat} {spare : Nat → Bool} {held : Bool}

set_option maxRecDepth 100000 in
theorem three_cells {fuel : Nat} {cs : List Value} {x : DataW H × List MemPlace} (h : DataW.trod enc Tryd.prog w base spare held fuel 72 cs = some x) : ∃ (k : Int) (a b : ByteArray), cs = [.int .i64 k, .string a, .string b] ∧ a.size ≤ maxLen ∧ b.size ≤ maxLen := by
  obtain ⟨xs, n, _, _, hcl, hlen, hf⟩ := DataW.trod_struct Tryd.underlying72 h
  have h0 := hf 0 _ rfl
  have h1 := hf 1 _ rfl
  have h2 := hf 2 _ rfl
  rw [cells72] at hcl
  match cs, hcl, xs, hlen with
  | [c0, c1, c2], _, [x0, x1, x2], _ =>
    simp [cells9, cells3] at h0 h1 h2
    obtain ⟨k, e0, _, _⟩ := DataW.trod_int Tryd.underlying3 h0
    obtain ⟨a, e1, _, s1⟩ := DataW.trod_string Tryd.underlying9 h1
    obtain ⟨b, e2, _, s2⟩ := DataW.trod_string Tryd.underlying9 h2
    simp at e0 e1 e2
    exact ⟨k, a, b, by rw [e0, e1, e2], s1, s2⟩

theorem open_matcher {v : Value} {d : DataW H} {ps : List MemPlace} (hv : ∃ cs, v = .agg cs ∧ cs.size = Tryd.prog.cellsOf 72) (h : DataW.Trod enc Tryd.prog w base spare held 72 v d ps) : ∃ (k : Int) (n s : ByteArray), v = matV k n s ∧ n.size ≤ maxLen ∧ s.size ≤ maxLen := by
  obtain ⟨cs, rfl, _⟩ := hv
  obtain ⟨fuel, hf⟩ := h
  obtain ⟨k, a, b, hc, h1, h2⟩ := three_cells hf
  refine ⟨k, a, b, ?_, h1, h2⟩
  simp [Value.cells] at hc
  obtain ⟨l⟩ := cs
  simp at hc
  subst hc
  rfl
end
end Go.Proofs.YtpbcgfgjdimpmaaDoor
