/- How a list of labels lies in memory: two cells a label; a list that came in, and one that the call itself made. Nothing of the program stands here but the form of its memory. -/
import Derived.Test.YtpbcgfgjdimpmaaDoorMath
import Derived.WalkKit
import Derived.Laws.OwnMore
import Derived.Deep.AppendLies
import Derived.Deep.Draws
import Derived.Below
import Derived.Deep.OwnRows
import Derived.OpenShut
namespace Go.Proofs.YtpbcgfgjdimpmaaDoor
open Go.RowKit Go.Deep Go.WideShapes

/-- The slice (ao, l.length) holds the labels l, in a block below B. -/
def LRow (w : World) (B : Nat) (ao : Option Addr) (l : List Lab) : Prop :=
  0 < l.length → ∃ b off, ao = some ⟨b, off, none⟩ ∧ b < B ∧ ∀ k (h : k < l.length), w.cell? ⟨b, off + k * 2, none⟩ = some (.string (l[k]'h).1) ∧ w.cell? ⟨b, off + k * 2 + 1, none⟩ = some (.string (l[k]'h).2)

/-- All its texts are within the reach of an int. -/
def Fit (l : List Lab) : Prop := l.length ≤ 1048576 ∧ ∀ x ∈ l, x.1.size ≤ 1048576 ∧ x.2.size ≤ 1048576

theorem Fit.at {l : List Lab} (h : Fit l) {k : Nat} (hk : k < l.length) : (l[k]'hk).1.size ≤ 1048576 ∧ (l[k]'hk).2.size ≤ 1048576 := h.2 _ (List.getElem_mem hk)

theorem LRow.nil (w : World) (B : Nat) (ao : Option Addr) : LRow w B ao [] := fun h => absurd h (by simp)
theorem LRow.keep {w w' : World} {B : Nat} {ao : Option Addr} {l : List Lab} (h : LRow w B ao l) (hk : ∀ p : Addr, p.block < B → w'.cell? p = w.cell? p) : LRow w' B ao l := fun hl => by
  obtain ⟨b, off, e, hb, hc⟩ := h hl
  exact ⟨b, off, e, hb, fun k hk' => ⟨(hk _ hb).trans (hc k hk').1, (hk _ hb).trans (hc k hk').2⟩⟩
theorem LRow.more {w : World} {B B' : Nat} {ao : Option Addr} {l : List Lab} (h : LRow w B ao l) (hB : B ≤ B') : LRow w B' ao l := fun hl => by
  obtain ⟨b, off, e, hb, hc⟩ := h hl
  exact ⟨b, off, e, Nat.lt_of_lt_of_le hb hB, hc⟩
theorem LRow.below {w w' : World} {B : Nat} {ao : Option Addr} {l : List Lab} (h : LRow w B ao l) (hb : Below B w w') : LRow w' B ao l := h.keep fun _ hp => hb.cell hp
theorem LRow.after {w w' : World} {ao : Option Addr} {l : List Lab} (h : LRow w w.heap.size ao l) (hb : Below w.heap.size w w') : LRow w' w'.heap.size ao l := (h.below hb).more hb.size
theorem LRow.drewN {w : World} {B : Nat} {ao : Option Addr} {l : List Lab} (h : LRow w B ao l) (q : Nat) : LRow (w.drewN q) B ao l := h.keep fun _ _ => rfl

theorem below_drewN {w w1 : World} {B : Nat} (h : Below B w w1) (q : Nat) : Below B w (w1.drewN q) := by
  induction q with
  | zero => exact h
  | succ q ih => exact ih.drew

/-- The labels of a row that the call owns are read from it. -/
theorem LRow.of_own {w : World} {base : Nat} {e : TypeId} {ao : Option Addr} {n c : Nat} {l : List Lab} (h : w.ownsRow base e 2 (.slice ao n c) n (cellsOf l)) : n = l.length ∧ LRow w w.heap.size ao l := by
  have hn : n = l.length := by
    have := h.1
    rw [cellsOf_length] at this
    omega
  refine ⟨hn, fun hl => ?_⟩
  obtain ⟨g, cap, hv, _, hlt⟩ := h.form (by omega)
  injection hv with hA
  subst hA
  have hc := h.cells (g := g) rfl
  refine ⟨g, 0, rfl, hlt, fun k hk => ⟨?_, ?_⟩⟩
  · have := hc _ _ (cellsOf_name hk)
    rwa [add_plain] at this
  · have := hc _ _ (cellsOf_is hk)
    rwa [add_plain, ← Nat.add_assoc] at this
end Go.Proofs.YtpbcgfgjdimpmaaDoor
