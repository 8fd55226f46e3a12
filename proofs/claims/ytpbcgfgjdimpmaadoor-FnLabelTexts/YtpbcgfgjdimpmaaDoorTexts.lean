/- Contracts of the helpers of the exact laws on lists of texts, over this seat's translation: the size, the copy, the comparison, the marks, and what is among texts. -/
import Derived.Test.YtpbcgfgjdimpmaaDoorMark
import Derived.Test.YtpbcgfgjdimpmaaDoorJc
namespace Go.Proofs.YtpbcgfgjdimpmaaDoor
open Go.RowKit Go.Deep Go.WideShapes

/-- The slice (ao, l.length) holds the texts l, in a block below B. -/
def TRow (w : World) (B : Nat) (ao : Option Addr) (l : List ByteArray) : Prop :=
  0 < l.length → ∃ b off, ao = some ⟨b, off, none⟩ ∧ b < B ∧ ∀ k (h : k < l.length), w.cell? ⟨b, off + k, none⟩ = some (.string (l[k]'h))
def FineT (l : List ByteArray) : Prop := l.length ≤ maxLen ∧ ∀ x ∈ l, x.size ≤ maxLen
def FitT (l : List ByteArray) : Prop := l.length ≤ 1048576 ∧ ∀ x ∈ l, x.size ≤ 1048576
theorem FineT.at {l : List ByteArray} (h : FineT l) {k : Nat} (hk : k < l.length) : (l[k]'hk).size ≤ maxLen := h.2 _ (List.getElem_mem hk)
theorem TRow.keep {w w' : World} {B : Nat} {ao : Option Addr} {l : List ByteArray} (h : TRow w B ao l) (hk : ∀ p : Addr, p.block < B → w'.cell? p = w.cell? p) : TRow w' B ao l := fun hl => by
  obtain ⟨b, off, e, hb, hc⟩ := h hl
  exact ⟨b, off, e, hb, fun k hk' => (hk _ hb).trans (hc k hk')⟩
theorem TRow.more {w : World} {B B' : Nat} {ao : Option Addr} {l : List ByteArray} (h : TRow w B ao l) (hB : B ≤ B') : TRow w B' ao l := fun hl => by
  obtain ⟨b, off, e, hb, hc⟩ := h hl
  exact ⟨b, off, e, Nat.lt_of_lt_of_le hb hB, hc⟩
theorem TRow.after {w w' : World} {ao : Option Addr} {l : List ByteArray} (h : TRow w w.heap.size ao l) (hb : Below w.heap.size w w') : TRow w' w'.heap.size ao l := (h.keep fun _ hp => hb.cell hp).more hb.size
theorem TRow.of_own {w : World} {base : Nat} {e : TypeId} {ao : Option Addr} {n c : Nat} {l : List ByteArray} (h : w.ownsRow base e 1 (.slice ao n c) n (l.map Value.string)) : n = l.length ∧ TRow w w.heap.size ao l := by
  have hn : n = l.length := by
    have := h.1
    simp at this
    omega
  refine ⟨hn, fun hl => ?_⟩
  obtain ⟨g, cap, hv, _, hlt⟩ := h.form (by omega)
  injection hv with hA
  subst hA
  have hc := h.cells (g := g) rfl
  refine ⟨g, 0, rfl, hlt, fun k hk => ?_⟩
  have := hc k (.string l[k]) (by simp [hk])
  rwa [add_plain] at this

def fitToT (l : List ByteArray) (k : Nat) : Prop := ∀ i (h : i < l.length), i < k → (l[i]'h).size ≤ 1048576
theorem fitToT_succ {l : List ByteArray} {k : Nat} (h : fitToT l k) (hk : k < l.length) (h2 : (l[k]'hk).size ≤ 1048576) : fitToT l (k + 1) := fun i hi hik => by
  by_cases e : i = k
  · subst e; exact h2
  · exact h i hi (by omega)
theorem fitT_of {l : List ByteArray} (h : fitToT l l.length) (hn : l.length ≤ 1048576) : FitT l := ⟨hn, fun x hx => by
  obtain ⟨i, hi, rfl⟩ := List.getElem_of_mem hx
  exact h i hi hi⟩
end Go.Proofs.YtpbcgfgjdimpmaaDoor
