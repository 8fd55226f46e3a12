/- What sorting labels comes to, for the model's sort. -/
import Derived.Test.YtpbcgfgjdimpmaaDoorSortMath
import Derived.Test.YtpbcgfgjdimpmaaDoorWithout
import Derived.Test.YtpbcgfgjdimpmaaDoorCmp
namespace Go.Proofs.YtpbcgfgjdimpmaaDoor
open Go.RowKit Go.Deep

def adjTo (S : List Lab) (k : Nat) : Prop := ∀ i (h : i + 1 < S.length), i < k → S[i].1.data.toList ≠ S[i + 1].1.data.toList
theorem adjTo_succ {S : List Lab} {k : Nat} (h : adjTo S k) (hne : ∀ (h : k + 1 < S.length), S[k].1.data.toList ≠ S[k + 1].1.data.toList) : adjTo S (k + 1) := fun i hi hik => by
  by_cases e : i = k
  · subst e; exact hne hi
  · exact h i hi (by omega)

theorem filter_keep {l : List Lab} {k : Nat} (hk : k < l.length) (h : hasIs l[k] = true) : (l.take (k + 1)).filter hasIs = (l.take k).filter hasIs ++ [l[k]] := by
  rw [List.take_succ_eq_append_getElem hk, List.filter_append]; simp [h]
theorem filter_drop {l : List Lab} {k : Nat} (hk : k < l.length) (h : hasIs l[k] = false) : (l.take (k + 1)).filter hasIs = (l.take k).filter hasIs := by
  rw [List.take_succ_eq_append_getElem hk, List.filter_append]; simp [h]

/-- What sorting labels comes to, in the program and in the model. -/
def SortEnd (l : List Lab) (w : World) (e : Ending) (w' : World) : Prop :=
  ∃ v R, e = .returned (.tuple #[v, .int .i64 (codeB l), .bool (codeB l == 0)]) ∧ ResS l R ∧ w'.ownsRow w.heap.size 82 2 v R.length (cellsOf R) ∧ Below w.heap.size w w'
theorem sortEnd_no {l : List Lab} {w w' : World} {c : Nat} (hc : codeB l = c) (h0 : c ≠ 0) (hb : Below w.heap.size w w') : SortEnd l w (.returned (.tuple #[.slice none 0 0, .int .i64 (c : Int), .bool false])) w' := by
  subst hc
  have hz : (codeB l == 0) = false := by simpa using h0
  exact ⟨_, [], by rw [hz], ⟨fun h => absurd h h0, fun _ => rfl⟩, World.ownsRow_nil _ _ _ _, hb⟩
theorem sortEnd_yes {l R : List Lab} {w w' : World} {v : Value} (hc : codeB l = 0) (hR : SortRes l R) (ho : w'.ownsRow w.heap.size 82 2 v R.length (cellsOf R)) (hb : Below w.heap.size w w') : SortEnd l w (.returned (.tuple #[v, .int .i64 0, .bool true])) w' :=
  ⟨v, R, by rw [hc]; rfl, ⟨fun _ => hR, fun h => absurd hc h⟩, ho, hb⟩
theorem own_later {w w1 w' : World} {v : Value} {n : Nat} {xs : List Value} (h : w'.ownsRow w1.heap.size 82 2 v n xs) (hle : w.heap.size ≤ w1.heap.size) : w'.ownsRow w.heap.size 82 2 v n xs := by
  refine ⟨h.1, ?_⟩
  rcases h.2 with h' | ⟨g, cap, cur, hv, hb, rest⟩
  · exact .inl h'
  · exact .inr ⟨g, cap, cur, hv, Nat.le_trans hle hb, rest⟩
end Go.Proofs.YtpbcgfgjdimpmaaDoor
