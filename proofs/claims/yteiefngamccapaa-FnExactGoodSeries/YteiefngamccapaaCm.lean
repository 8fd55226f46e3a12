/- Mathematics of cutting a chunk at a time, slices of a row of samples, and the contract of CutAt in the program, over this seat's translation. -/
import Derived.Test.YteiefngamccapaaOf
namespace Go.Proofs.Yteiefngamccapaa
open Go.RowKit Go.Deep

/-- How many samples lie ahead of a time. -/
def cutK (l : List Smp) (t : Int) : Nat := (l.takeWhile fun x => decide (x.1 < t)).length
def CK (l : List Smp) (t : Int) (k : Nat) : Prop := k ≤ l.length ∧ ∀ i, i < k → tF l i < t
theorem ck_zero (l : List Smp) (t : Int) : CK l t 0 := ⟨Nat.zero_le _, fun i h => absurd h (by omega)⟩
theorem ck_succ {l : List Smp} {t : Int} {k : Nat} (h : CK l t k) (hk : k < l.length) (ht : tF l k < t) : CK l t (k + 1) := ⟨hk, fun i hi => by
  by_cases e : i = k
  · subst e; exact ht
  · exact h.2 i (by omega)⟩
theorem tF_cons (x : Smp) (l : List Smp) (i : Nat) : tF (x :: l) (i + 1) = tF l i := by simp [tF]
theorem ck_is : ∀ {l : List Smp} {t : Int} {k : Nat}, CK l t k → (k = l.length ∨ t ≤ tF l k) → cutK l t = k
  | [], _, k, h, _ => by have := h.1; simp at this; subst this; rfl
  | x :: l, t, 0, _, hs => by
    rcases hs with h | h
    · simp at h
    · unfold cutK
      rw [List.takeWhile_cons_of_neg (by simpa [tF] using h)]; rfl
  | x :: l, t, k + 1, h, hs => by
    have h0 : x.1 < t := by have := h.2 0 (by omega); simpa [tF] using this
    have ih := ck_is (l := l) (t := t) (k := k) ⟨by have := h.1; simp at this; omega, fun i hi => by have := h.2 (i + 1) (by omega); rwa [tF_cons] at this⟩ (by
      rcases hs with hs | hs
      · exact .inl (by simpa using hs)
      · rw [tF_cons] at hs; exact .inr hs)
    unfold cutK at ih ⊢
    rw [List.takeWhile_cons_of_pos (by simpa using h0), List.length_cons, ih]
theorem good_take {l : List Smp} (h : goodS l = true) (k : Nat) : goodS (l.take k) = true := by
  rw [goodS_iff] at h ⊢
  intro i hi
  rw [List.length_take] at hi
  refine ⟨by rw [List.getElem_take]; exact (h i (by omega)).1, fun hj => ?_⟩
  rw [List.length_take] at hj
  rw [List.getElem_take, List.getElem_take]
  exact (h i (by omega)).2 (by omega)
theorem good_drop {l : List Smp} (h : goodS l = true) (k : Nat) : goodS (l.drop k) = true := by
  rw [goodS_iff] at h ⊢
  intro i hi
  rw [List.length_drop] at hi
  refine ⟨by rw [List.getElem_drop]; exact (h (k + i) (by omega)).1, fun hj => ?_⟩
  rw [List.length_drop] at hj
  rw [List.getElem_drop, List.getElem_drop]
  exact (h (k + i) (by omega)).2 (by omega)
theorem pkB_take {l : List Smp} (h : pkB l = true) (k : Nat) : pkB (l.take k) = true := pkB_good (by have := (pkB_fit h).1; rw [List.length_take]; omega) (good_take (pkB_fit h).2 k)
theorem pkB_drop {l : List Smp} (h : pkB l = true) (k : Nat) : pkB (l.drop k) = true := pkB_good (by have := (pkB_fit h).1; rw [List.length_drop]; omega) (good_drop (pkB_fit h).2 k)
/-- The two chunks of a cut. -/
noncomputable def ctA (c : Chk) (t : Int) : Chk := pkC ((soL c).take (cutK (soL c) t))
noncomputable def ctB (c : Chk) (t : Int) : Chk := pkC ((soL c).drop (cutK (soL c) t))
def CtEnd (c : Chk) (t : Int) (w : World) (e : Ending) (w' : World) : Prop := e = .returned (.tuple #[chV (ctA c t), chV (ctB c t), .bool (soB c)]) ∧ Below w.heap.size w w'
theorem ct_no {c : Chk} {t : Int} (h : soB c = false) : Ending.returned (.tuple #[.agg #[zS, zI, zI, zI], .agg #[zS, zI, zI, zI], .bool false]) = .returned (.tuple #[chV (ctA c t), chV (ctB c t), .bool (soB c)]) := by
  unfold ctA ctB
  rw [so_not h, h]; rfl
theorem ct_yes {c : Chk} {t : Int} {k : Nat} {p q : Chk} (h : soB c = true) (hk : cutK (soL c) t = k) (hp : p = pkC ((soL c).take k)) (hq : q = pkC ((soL c).drop k)) : Ending.returned (.tuple #[chV p, chV q, .bool true]) = .returned (.tuple #[chV (ctA c t), chV (ctB c t), .bool (soB c)]) := by
  unfold ctA ctB
  rw [hk, h, hp, hq]

theorem elem32 : Try.prog.underlying 50 = some (.slice (Try.prog.elem 50)) := by kernel_rfl
theorem size32 (W : World) : (sizeOf (Try.prog.elem 50)).run Try.prog W = .ok 2 W := by
  rw [show Try.prog.elem 50 = 42 by kernel_rfl]
  simp [sizeOf, go_sem]
  kernel_rfl
theorem SRow.take {w : World} {B : Nat} {ao : Option Addr} {l : List Smp} (h : SRow w B ao l) (k : Nat) : SRow w B ao (l.take k) := fun hl => by
  rw [List.length_take] at hl
  obtain ⟨b, off, e, hb, hc⟩ := h (by omega)
  refine ⟨b, off, e, hb, fun j hj => ?_⟩
  rw [List.length_take] at hj
  rw [List.getElem_take]
  exact hc j (by omega)
theorem SRow.drop {w : World} {B : Nat} {b off : Nat} {l : List Smp} (h : SRow w B (some ⟨b, off, none⟩) l) (k : Nat) : SRow w B (some ⟨b, off + k * 2, none⟩) (l.drop k) := fun hl => by
  rw [List.length_drop] at hl
  obtain ⟨b', off', e, hb, hc⟩ := h (by omega)
  injection e with e
  injection e with e1 e2
  subst e1 e2
  refine ⟨b, off + k * 2, rfl, hb, fun j hj => ?_⟩
  rw [List.length_drop] at hj
  rw [List.getElem_drop]
  have := hc (k + j) (by omega)
  rw [Nat.add_mul, ← Nat.add_assoc] at this
  exact this
/-- The two slices of a row of samples. -/
theorem cut_slices (ao : Option Addr) (l : List Smp) (k cp : Nat) (hk : k ≤ l.length) (hc : l.length ≤ cp) : ∃ ao1 ao2 : Option Addr,
    (∀ W, (Instr.slice 50 (.slice ao l.length cp) none (some (.int .i64 (k : Int))) none).run Try.prog W = .ok (.slice ao1 k cp) W) ∧
    (∀ W, (Instr.slice 50 (.slice ao l.length cp) (some (.int .i64 (k : Int))) none none).run Try.prog W = .ok (.slice ao2 (l.length - k) (cp - k)) W) ∧
    ∀ W B, SRow W B ao l → SRow W B ao1 (l.take k) ∧ SRow W B ao2 (l.drop k) := by
  refine ⟨if cp = 0 then ao else ao.map (·.add (0 * 2)), if cp = k then ao else ao.map (·.add (k * 2)), fun W => ?_, fun W => ?_, fun W B h => ⟨?_, ?_⟩⟩
  · rw [run_slice_h W 50 ao l.length cp elem32 .i64 k (by omega) (by omega), size32]
    simp [Result.andThen, sliced]
  · rw [run_slice_l W 50 ao l.length cp elem32 .i64 k (by omega) (by omega), size32]
    simp [Result.andThen, sliced]
  · have e : (if cp = 0 then ao else ao.map (·.add (0 * 2))) = ao := by
      split
      · rfl
      · cases ao <;> simp [Addr.add]
    rw [e]
    exact h.take k
  · intro hl
    have hl' := hl
    rw [List.length_drop] at hl'
    obtain ⟨b, off, e, _⟩ := h (by omega)
    subst e
    rw [if_neg (by omega)]
    have : (Option.map (·.add (k * 2)) (some ⟨b, off, none⟩ : Option Addr)) = some ⟨b, off + k * 2, none⟩ := by simp [Go.WideShapes.add_plain]
    rw [this]
    exact h.drop k hl
theorem below4 {B g : Nat} {w w' : World} {a b c d : Value} (h : Below B w w') (hg : B ≤ g) : Below B w ((((w'.setCell ⟨g, 0, none⟩ a).setCell ⟨g, 1, none⟩ b).setCell ⟨g, 2, none⟩ c).setCell ⟨g, 3, none⟩ d) := (((h.setCell hg _).setCell hg _).setCell hg _).setCell hg _
theorem Bx.far4 {w : World} {g h : Nat} {a b c d a1 a2 a3 a4 : Value} (hx : Bx w h a b c d) (hne : g ≠ h) : Bx ((((w.setCell ⟨g, 0, none⟩ a1).setCell ⟨g, 1, none⟩ a2).setCell ⟨g, 2, none⟩ a3).setCell ⟨g, 3, none⟩ a4) h a b c d := by
  obtain ⟨t, hx⟩ := hx
  refine ⟨t, ?_⟩
  rw [Below.heap_setCell _ _ _ h (by exact Ne.symm hne), Below.heap_setCell _ _ _ h (by exact Ne.symm hne), Below.heap_setCell _ _ _ h (by exact Ne.symm hne), Below.heap_setCell _ _ _ h (by exact Ne.symm hne)]
  exact hx
theorem set_at {w : World} {g i : Nat} {cs : Array Value} {t : TypeId} {v : Value} (h : w.heap[g]? = some (.cells cs t)) : (w.setCell ⟨g, i, none⟩ v).heap[g]? = some (.cells (cs.setIfInBounds i v) t) := by
  simp [World.setCell, Array.getElem?_modify, h]
theorem Bx.set4 {w : World} {g : Nat} {a b c d a' b' c' d' : Value} (hx : Bx w g a b c d) : Bx ((((w.setCell ⟨g, 0, none⟩ a').setCell ⟨g, 1, none⟩ b').setCell ⟨g, 2, none⟩ c').setCell ⟨g, 3, none⟩ d') g a' b' c' d' := by
  obtain ⟨t, hx⟩ := hx
  refine ⟨t, ?_⟩
  exact set_at (i := 3) (v := d') (set_at (i := 2) (v := c') (set_at (i := 1) (v := b') (set_at (i := 0) (v := a') hx)))
theorem Bx.alloc {w : World} {h : Nat} {a b c d : Value} (hx : Bx w h a b c d) (o : Obj) : Bx (w.alloc o) h a b c d := hx.below ((Below.refl _ _).alloc (Nat.le_refl _) o)
end Go.Proofs.Yteiefngamccapaa
