/- What BeginAppend answers; marks that are answered, when memory of others is written. Over this seat's translation. -/
import Derived.Test.YtabkjjbhnapgpaaNq
namespace Go.Proofs.Ytabkjjbhnapgpaa
open Go.RowKit Go.Deep Go.ChangeShapes Go.WideShapes Go.ChangeAt

noncomputable def begB (last : Int) (op : List Int) (cs : List Vc) : Bool := goodMk last op cs && (decide (op.length ≠ 8) && decide (last ≠ 100000))
noncomputable def begL (last : Int) (op : List Int) (cs : List Vc) : Int := if begB last op cs = true then last + 1 else 0
noncomputable def begO (last : Int) (op : List Int) (cs : List Vc) : List Int := if begB last op cs = true then op ++ [last + 1] else []
noncomputable def begC (last : Int) (op : List Int) (cs : List Vc) : List Vc := if begB last op cs = true then cs else []
/-- Marks, a number and a bool are answered. -/
def MnEnd (last : Int) (op : List Int) (cs : List Vc) (i : Int) (b : Bool) (w : World) (e : Ending) (w' : World) : Prop := ∃ v, e = .returned (.tuple #[v, .int .i64 i, .bool b]) ∧ MkEnd last op cs w v w'
/-- Marks and a bool are answered. -/
def MbEnd (last : Int) (op : List Int) (cs : List Vc) (b : Bool) (w : World) (e : Ending) (w' : World) : Prop := ∃ v, e = .returned (.tuple #[v, .bool b]) ∧ MkEnd last op cs w v w'
theorem mk_zero {w w' : World} (hb : Below w.heap.size w w') : MkEnd 0 [] [] w (.agg #[.int .i64 0, .slice none 0 0, .slice none 0 0]) w' := by
  have := (MOwn.start (lo := w.heap.size) (oo := none) (oc := 0) (op := []) (w := w') (fun _ => (⟨0, 0, none, 0, []⟩ : Vw)) (World.ownsRow_nil _ _ _ _)).done (by simp) (fun i hi => absurd hi (by omega))
  exact ⟨none, 0, none, 0, 0, _, rfl, rfl, this.1, this.2, hb⟩
/-- What is written lies behind w, and ahead of the call: the marks stand. -/
theorem MkEnd.only {L : Int} {O : List Int} {C : List Vc} {w W w2 w3 : World} {v : Value} (h : MkEnd L O C W v w2) (hb : Below w.heap.size w W) (ho : Only (fun i => i < W.heap.size ∧ w.heap.size ≤ i) w2 w3) : MkEnd L O C w v w3 := by
  obtain ⟨oo, oc, ro, rc, n, g, h1, h2, h3, h4, h5⟩ := h
  have hl := hb.trans (h5.mono hb.size)
  exact ⟨oo, oc, ro, rc, n, g, h1, h2, h3.only ho (fun i hi hh => by have := h4.ge i hi; omega), (h4.only h3 ho).lower hb.size, hl.trans (ho.below (B := w.heap.size) (fun i _ hi => hi.2) hl.size)⟩
theorem MkEnd.drew {L : Int} {O : List Int} {C : List Vc} {w w' : World} {v : Value} (h : MkEnd L O C w v w') : MkEnd L O C w v w'.drew := by
  obtain ⟨oo, oc, ro, rc, n, g, h1, h2, h3, h4, h5⟩ := h
  exact ⟨oo, oc, ro, rc, n, g, h1, h2, h3, h4, h5.drew⟩
theorem mn_no {last : Int} {op : List Int} {cs : List Vc} {w w' : World} (h : begB last op cs = false) (hb : Below w.heap.size w w') : MnEnd (begL last op cs) (begO last op cs) (begC last op cs) (begL last op cs) (begB last op cs) w (.returned (.tuple #[.agg #[.int .i64 0, .slice none 0 0, .slice none 0 0], .int .i64 0, .bool false])) w' := by
  have h1 : ¬ begB last op cs = true := by rw [h]; decide
  unfold begL begO begC
  rw [if_neg h1, if_neg h1, if_neg h1, h]
  exact ⟨_, rfl, mk_zero hb⟩
theorem mn_yes {last : Int} {op : List Int} {cs : List Vc} {w w' : World} {v : Value} (h : begB last op cs = true) (hv : MkEnd (last + 1) (op ++ [last + 1]) cs w v w') : MnEnd (begL last op cs) (begO last op cs) (begC last op cs) (begL last op cs) (begB last op cs) w (.returned (.tuple #[v, .int .i64 (last + 1), .bool true])) w' := by
  unfold begL begO begC
  rw [if_pos h, if_pos h, if_pos h, h]
  exact ⟨_, rfl, hv⟩
theorem begB_of {last : Int} {op : List Int} {cs : List Vc} (h : goodMk last op cs = true) (h1 : ¬ op.length = 8) (h2 : ¬ last = 100000) : begB last op cs = true := by simp [begB, h, h1, h2]
theorem begB_bad {last : Int} {op : List Int} {cs : List Vc} (h : goodMk last op cs = false) : begB last op cs = false := by simp [begB, h]
theorem begB_8 {last : Int} {op : List Int} {cs : List Vc} (h : op.length = 8) : begB last op cs = false := by simp [begB, h]
theorem begB_last {last : Int} {op : List Int} {cs : List Vc} (h : last = 100000) : begB last op cs = false := by simp [begB, h]
end Go.Proofs.Ytabkjjbhnapgpaa
