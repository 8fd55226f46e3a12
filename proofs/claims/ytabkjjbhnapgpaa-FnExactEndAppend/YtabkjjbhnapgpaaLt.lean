/- A region that draws its order and holds calls that make memory and hand back a plain value: one walk serves every order, in the class of all later worlds. Nothing of the program stands here. -/
import Derived.Test.YtabkjjbhnapgpaaGb
import Derived.Deep.QuietTactic
import Derived.BigQuiet
namespace Go.Proofs.Ytabkjjbhnapgpaa
open Go.RowKit Go.Deep

/-- A world in which all that was there is as it was. -/
structure Later (W : World) where
  U : World
  b : Below W.heap.size W U
instance later_one (W : World) : Nonempty (Later W) := ⟨⟨W, Below.refl _ _⟩⟩
theorem Later.call {P : Program} {f : FuncId} {args : Array Value} {W : World} (U : Later W) {v : Value} (h : Calls P f args U.U fun e w' => e = .returned v ∧ Below U.U.heap.size U.U w') : Calls P f args U.U fun e w' => e = .returned v ∧ ∃ U' : Later W, w' = U'.U :=
  h.mono fun _ w' hh => ⟨hh.1, ⟨w', U.b.trans (hh.2.mono U.b.size)⟩, rfl⟩
theorem Later.same {P : Program} {f : FuncId} {args : Array Value} {W : World} (U : Later W) {v : Value} (h : Calls P f args U.U fun e w' => e = .returned v ∧ U.U = w') : Calls P f args U.U fun e w' => e = .returned v ∧ ∃ U' : Later W, w' = U'.U :=
  h.mono fun _ _ hh => ⟨hh.1, U, hh.2.symm⟩
theorem region_later {P : Program} {id : Nat} {Q : Exit → Act → World → Prop} {a : Act} {W : World} {l : List Oper} (hm : P.follows .mixedOrders = true) (hB : Region.lexB .any l.toArray = true)
    (h : wpQuiet P l.toArray (fun w' => ∃ U : Later W, w' = U.U) (fun a' => ∀ w', (∃ U : Later W, w' = U.U) → Q .normal a' w') l a) : (Code.region id l.toArray true).wp P Q a W :=
  wp_region_quiet (C := fun w' => ∃ U : Later W, w' = U.U) hm hB ⟨⟨W.drew, (Below.refl _ _).drew⟩, rfl⟩ (by simpa using h)
theorem later_cell {W : World} {p : Addr} {v : Value} (h : W.cell? p = some v) : ∀ U : Later W, U.U.cell? p = some v := fun U => (U.b.cell (World.block_lt_of_cell? W p h)).trans h
theorem B3.later {W : World} {g : Nat} {a b c : Value} (h : B3 W g a b c) : (∀ U : Later W, U.U.cell? ⟨g, 0, none⟩ = some a) ∧ (∀ U : Later W, U.U.cell? ⟨g, 1, none⟩ = some b) ∧ (∀ U : Later W, U.U.cell? ⟨g, 2, none⟩ = some c) :=
  ⟨later_cell h.cells.1, later_cell h.cells.2.1, later_cell h.cells.2.2⟩
end Go.Proofs.Ytabkjjbhnapgpaa
