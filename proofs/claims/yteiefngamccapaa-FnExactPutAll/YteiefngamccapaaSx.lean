/- Storing a chunk into a row of chunks of one's own. -/
import Derived.Test.YteiefngamccapaaAp
import Derived.Test.YteiefngamccapaaPtMath

namespace Go.Proofs.Yteiefngamccapaa
open Go.RowKit Go.Deep

theorem cellsG_set4 (c : Chk) : ∀ (l : List Chk) (k : Nat), k < l.length →
    ((((cellsG cC l).set (k * 4) (.string c.1)).set (k * 4 + 1) (.int .i64 c.2.1)).set (k * 4 + 2) (.int .i64 c.2.2.1)).set (k * 4 + 3) (.int .i64 c.2.2.2) = cellsG cC (l.set k c)
  | [], k, h => by simp at h
  | x :: l, 0, _ => rfl
  | x :: l, k + 1, h => by
    have ih := cellsG_set4 c l k (by simpa using h)
    have e : (k + 1) * 4 = k * 4 + 4 := by omega
    rw [e]
    show cC x ++ ((((cellsG cC l).set (k * 4) (.string c.1)).set (k * 4 + 1) (.int .i64 c.2.1)).set (k * 4 + 2) (.int .i64 c.2.2.1)).set (k * 4 + 3) (.int .i64 c.2.2.2) = cC x ++ cellsG cC (l.set k c)
    rw [ih]
/-- A chunk stored into a row of one's own, field by field. -/
theorem own_store4 {w : World} {base g n cap k : Nat} {l : List Chk} (c : Chk) (h : w.ownsRow base 85 4 (.slice (some ⟨g, 0, none⟩) n cap) n (cellsG cC l)) (hk : k < l.length) :
    ((((w.setCell ⟨g, k * 4, none⟩ (.string c.1)).setCell ⟨g, k * 4 + 1, none⟩ (.int .i64 c.2.1)).setCell ⟨g, k * 4 + 2, none⟩ (.int .i64 c.2.2.1)).setCell ⟨g, k * 4 + 3, none⟩ (.int .i64 c.2.2.2)).ownsRow base 85 4 (.slice (some ⟨g, 0, none⟩) n cap) n (cellsG cC (l.set k c)) := by
  rw [← cellsG_set4 c l k hk]
  exact ((((h.stored (k * 4) _).1.stored (k * 4 + 1) _).1.stored (k * 4 + 2) _).1.stored (k * 4 + 3) _).1
end Go.Proofs.Yteiefngamccapaa
