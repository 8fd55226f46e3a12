/- Mathematics of the last sample of a series. No program is spoken of. -/
import Derived.Test.YteiefngamccapaaBk
import Derived.Test.YteiefngamccapaaK5
import Derived.Test.YteiefngamccapaaK3

namespace Go.Proofs.Yteiefngamccapaa
open Go.RowKit Go.Deep

/-- The last sample of a list, and whether there is one. -/
def lsV (x : List Smp) : Smp := if 0 < x.length then (tF x (x.length - 1), vF x (x.length - 1)) else (0, 0)
def lsB (x : List Smp) : Bool := decide (0 < x.length)
theorem lsV_nil {x : List Smp} (h : x = []) : lsV x = (0, 0) ∧ lsB x = false := by subst h; exact ⟨rfl, rfl⟩
theorem lsV_append (a x : List Smp) (h : 0 < x.length) : lsV (a ++ x) = lsV x ∧ lsB (a ++ x) = true := by
  unfold lsV lsB
  have hl : (a ++ x).length = a.length + x.length := List.length_append
  rw [if_pos (by omega), if_pos h, hl]
  refine ⟨?_, decide_eq_true (by omega)⟩
  have e : a.length + x.length - 1 = a.length + (x.length - 1) := by omega
  unfold tF vF
  rw [e, List.getElem?_append_right (by omega), Nat.add_sub_cancel_left]
theorem serL_drop_nil {l : List Chk} {k : Nat} (h : ∀ i (hi : i < l.length), k ≤ i → soL l[i] = []) : serL l = serL (l.take k) := by
  conv => lhs; rw [← List.take_append_drop k l]
  unfold serL
  rw [List.flatMap_append]
  have : (l.drop k).flatMap soL = [] := by
    rw [List.flatMap_eq_nil_iff]
    intro c hc
    obtain ⟨i, hi, rfl⟩ := List.getElem_of_mem hc
    rw [List.length_drop] at hi
    rw [List.getElem_drop]
    exact h (k + i) (by omega) (by omega)
  rw [this, List.append_nil]
theorem dn_mem {n : Nat} {pre : List (Fin n)} (h : Dn pre) {k : Nat} (hk : k < n) (hp : n ≤ k + pre.length) : (⟨k, hk⟩ : Fin n) ∈ pre := by
  have hj : n - 1 - k < pre.length := by omega
  have := h (n - 1 - k) hj
  have e : pre[n - 1 - k] = ⟨k, hk⟩ := Fin.ext (by simp only; omega)
  rw [← e]
  exact List.getElem_mem _
theorem ls_none {l : List Chk} {ys : List (Fin l.length)} (hD : Dn ys) (hn : ys.length = l.length) (h : ∀ i ∈ ys, soL l[i.val] = []) : serL l = [] := by
  have := serL_drop_nil (l := l) (k := 0) (fun i hi _ => h ⟨i, hi⟩ (dn_mem hD hi (by omega)))
  rw [this]; rfl
theorem ls_some {l : List Chk} {pre : List (Fin l.length)} {i : Fin l.length} (hD : Dn (pre ++ [i])) (h : ∀ j ∈ pre, soL l[j.val] = []) (h0 : 0 < (soL l[i.val]).length) : lsV (serL l) = lsV (soL l[i.val]) ∧ lsB (serL l) = true := by
  have hi := hD pre.length (by simp)
  rw [List.getElem_append_right (by omega)] at hi
  simp at hi
  have hDp : Dn pre := fun j hj => by
    have := hD j (by simp; omega)
    rwa [List.getElem_append_left hj] at this
  have := serL_drop_nil (l := l) (k := i.val + 1) (fun k hk hik => h ⟨k, hk⟩ (dn_mem hDp hk (by omega)))
  rw [this, serL_snoc i.isLt]
  exact lsV_append _ _ h0
end Go.Proofs.Yteiefngamccapaa
