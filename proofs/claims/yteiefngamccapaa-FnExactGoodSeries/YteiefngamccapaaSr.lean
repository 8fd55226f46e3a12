/- How a list of samples lies in memory: two cells a sample, a number and a float64; a list that came in, and one that the call itself made. Nothing of the program stands here but the form of its memory. -/
import Derived.Test.YteiefngamccapaaChMath
import Derived.Test.YteiefngamccapaaArgs
import Derived.Laws.OwnMore
import Derived.Deep.AppendLies
import Derived.Deep.Draws
import Derived.Below
import Derived.Deep.OwnRows
namespace Go.Proofs.Yteiefngamccapaa
open Go.RowKit Go.Deep Go.WideShapes

theorem run_store_float {P : Program} (a : Addr) (m : Mode) (w : World) (x : Nat) : (store a (.float .f64 x) m).run P w = stored P w a (.float .f64 x) m := run_store P w a _ m rfl

/-- How samples lie in memory. -/
def cellsS (l : List Smp) : List Value := l.flatMap fun x => [.int .i64 x.1, .float .f64 x.2]
theorem cellsS_length (l : List Smp) : (cellsS l).length = l.length * 2 := by
  induction l with
  | nil => rfl
  | cons x l ih =>
    simp only [cellsS] at ih
    simp only [cellsS, List.flatMap_cons, List.length_append, List.length_cons, ih, List.length_nil]
    omega
theorem cellsS_append (a b : List Smp) : cellsS (a ++ b) = cellsS a ++ cellsS b := by simp [cellsS]
theorem cellsS_t {l : List Smp} {k : Nat} (hk : k < l.length) : (cellsS l)[k * 2]? = some (.int .i64 l[k].1) := by
  induction l generalizing k with
  | nil => simp at hk
  | cons x l ih =>
    cases k with
    | zero => rfl
    | succ k =>
      have := ih (k := k) (by simpa using hk)
      simpa [cellsS, Nat.succ_mul] using this
theorem cellsS_v {l : List Smp} {k : Nat} (hk : k < l.length) : (cellsS l)[k * 2 + 1]? = some (.float .f64 l[k].2) := by
  induction l generalizing k with
  | nil => simp at hk
  | cons x l ih =>
    cases k with
    | zero => rfl
    | succ k =>
      have := ih (k := k) (by simpa using hk)
      simpa [cellsS, Nat.succ_mul] using this
theorem cellsS_one {l : List Smp} : ∀ u ∈ cellsS l, u.oneCell' = true := by
  intro u hu
  simp [cellsS] at hu
  obtain ⟨a, b, _, rfl | rfl⟩ := hu <;> rfl
theorem FitS.at {l : List Smp} (h : FitS l) {k : Nat} (hk : k < l.length) : In64 (l[k]'hk).1 ∧ (l[k]'hk).2 < 18446744073709551616 := h _ (List.getElem_mem hk)
theorem FitS.nil : FitS [] := fun x hx => by simp at hx
theorem FitS.append {a b : List Smp} (ha : FitS a) (hb : FitS b) : FitS (a ++ b) := fun x hx => by
  rcases List.mem_append.1 hx with h | h
  · exact ha x h
  · exact hb x h
theorem FitS.take {a : List Smp} (ha : FitS a) (k : Nat) : FitS (a.take k) := fun x hx => ha x (List.mem_of_mem_take hx)
theorem FitS.drop {a : List Smp} (ha : FitS a) (k : Nat) : FitS (a.drop k) := fun x hx => ha x (List.mem_of_mem_drop hx)

/-- The slice (ao, l.length) holds the samples l, in a block below B. -/
def SRow (w : World) (B : Nat) (ao : Option Addr) (l : List Smp) : Prop :=
  0 < l.length → ∃ b off, ao = some ⟨b, off, none⟩ ∧ b < B ∧ ∀ k (h : k < l.length), w.cell? ⟨b, off + k * 2, none⟩ = some (.int .i64 (l[k]'h).1) ∧ w.cell? ⟨b, off + k * 2 + 1, none⟩ = some (.float .f64 (l[k]'h).2)

theorem SRow.nil (w : World) (B : Nat) (ao : Option Addr) : SRow w B ao [] := fun h => absurd h (by simp)
theorem SRow.keep {w w' : World} {B : Nat} {ao : Option Addr} {l : List Smp} (h : SRow w B ao l) (hk : ∀ p : Addr, p.block < B → w'.cell? p = w.cell? p) : SRow w' B ao l := fun hl => by
  obtain ⟨b, off, e, hb, hc⟩ := h hl
  exact ⟨b, off, e, hb, fun k hk' => ⟨(hk _ hb).trans (hc k hk').1, (hk _ hb).trans (hc k hk').2⟩⟩
theorem SRow.more {w : World} {B B' : Nat} {ao : Option Addr} {l : List Smp} (h : SRow w B ao l) (hB : B ≤ B') : SRow w B' ao l := fun hl => by
  obtain ⟨b, off, e, hb, hc⟩ := h hl
  exact ⟨b, off, e, Nat.lt_of_lt_of_le hb hB, hc⟩
theorem SRow.below {w w' : World} {B : Nat} {ao : Option Addr} {l : List Smp} (h : SRow w B ao l) (hb : Below B w w') : SRow w' B ao l := h.keep fun _ hp => hb.cell hp
theorem SRow.after {w w' : World} {ao : Option Addr} {l : List Smp} (h : SRow w w.heap.size ao l) (hb : Below w.heap.size w w') : SRow w' w'.heap.size ao l := (h.below hb).more hb.size
theorem SRow.drewN {w : World} {B : Nat} {ao : Option Addr} {l : List Smp} (h : SRow w B ao l) (q : Nat) : SRow (w.drewN q) B ao l := h.keep fun _ _ => rfl
theorem SRow.one {w : World} {B : Nat} {ao : Option Addr} {l : List Smp} {k : Nat} (h : SRow w B ao l) (hk : k < l.length) : ∃ b off, ao = some ⟨b, off, none⟩ ∧ b < B ∧ w.cell? ⟨b, off + k * 2, none⟩ = some (.int .i64 (l[k]'hk).1) ∧ w.cell? ⟨b, off + k * 2 + 1, none⟩ = some (.float .f64 (l[k]'hk).2) := by
  obtain ⟨b, off, e, hb, hc⟩ := h (by omega)
  exact ⟨b, off, e, hb, hc k hk⟩
theorem SRow.nonnil {w : World} {B : Nat} {ao : Option Addr} {l : List Smp} (h : SRow w B ao l) (hp : 0 < l.length) : ∃ a, ao = some a := by
  obtain ⟨b, off, e, _⟩ := h hp
  exact ⟨_, e⟩

theorem below_drewN {w w1 : World} {B : Nat} (h : Below B w w1) (q : Nat) : Below B w (w1.drewN q) := by
  induction q with
  | zero => exact h
  | succ q ih => exact ih.drew

/-- The samples of a row that the call owns are read from it. -/
theorem SRow.of_own {w : World} {base : Nat} {e : TypeId} {ao : Option Addr} {n c : Nat} {l : List Smp} (h : w.ownsRow base e 2 (.slice ao n c) n (cellsS l)) : n = l.length ∧ SRow w w.heap.size ao l := by
  have hn : n = l.length := by
    have := h.1
    rw [cellsS_length] at this
    omega
  refine ⟨hn, fun hl => ?_⟩
  obtain ⟨g, cap, hv, _, hlt⟩ := h.form (by omega)
  injection hv with hA
  subst hA
  have hc := h.cells (g := g) rfl
  refine ⟨g, 0, rfl, hlt, fun k hk => ⟨?_, ?_⟩⟩
  · have := hc _ _ (cellsS_t hk)
    rwa [add_plain] at this
  · have := hc _ _ (cellsS_v hk)
    rwa [add_plain, ← Nat.add_assoc] at this
/-- A slice in a row of one's own, in its two forms. -/
theorem SRow.own {w : World} {base : Nat} {e : TypeId} {v : Value} {l : List Smp} (h : w.ownsRow base e 2 v l.length (cellsS l)) : ∃ ao c, v = .slice ao l.length c ∧ SRow w w.heap.size ao l := by
  obtain ⟨ao, c, rfl⟩ := own_slice h
  exact ⟨ao, c, rfl, (SRow.of_own h).2⟩
theorem own_len {w : World} {base : Nat} {e : TypeId} {ao : Option Addr} {n c : Nat} {xs : List Value} {s : Nat} (h : w.ownsRow base e s (.slice ao n c) n xs) : n ≤ c := by
  rcases h.2 with ⟨hv, hn⟩ | ⟨g, cap, cur, hv, _, _, hle, _⟩
  · injection hv with _ _ hc; omega
  · injection hv with _ _ hc; omega

theorem Try.info42 : (Try.prog.info? 42).map (fun i => (i.zero, i.size, i.bytes)) = some (some (.agg #[.int .i64 0, .float .f64 0]), 2, 16) := by kernel_rfl
theorem take_pair {cur : List Value} {k : Nat} {a b : Value} (h : k * 2 + 2 ≤ cur.length) : ((cur.set (k * 2) a).set (k * 2 + 1) b).take (k * 2 + 2) = cur.take (k * 2) ++ [a, b] := by
  apply List.ext_getElem?
  intro i
  rw [List.getElem?_take]
  by_cases h1 : i < k * 2
  · rw [if_pos (by omega), List.getElem?_set_ne (by omega), List.getElem?_set_ne (by omega), List.getElem?_append_left (by simp; omega), List.getElem?_take, if_pos h1]
  · by_cases h2 : i = k * 2
    · subst h2
      rw [if_pos (by omega), List.getElem?_set_ne (by omega), List.getElem?_set_self (by omega), List.getElem?_append_right (by simp; omega)]
      simp [Nat.min_eq_left (show k * 2 ≤ cur.length by omega)]
    · by_cases h3 : i = k * 2 + 1
      · subst h3
        rw [if_pos (by omega), List.getElem?_set_self (by simp; omega), List.getElem?_append_right (by simp; omega)]
        simp [Nat.min_eq_left (show k * 2 ≤ cur.length by omega)]
      · rw [if_neg (by omega), List.getElem?_eq_none (by simp; omega)]

/-- The first k samples have been laid. -/
def Laid (base : Nat) (g c : Nat) (l : List Smp) (k : Nat) (wr : World) : Prop :=
  ∃ cur, wr.ownsRow base 42 2 (.slice (some ⟨g, 0, none⟩) l.length c) l.length cur ∧ cur.take (k * 2) = cellsS (l.take k)
theorem Laid.at {base g c : Nat} {l : List Smp} {k : Nat} {wr : World} (h : Laid base g c l k wr) (hk : k < l.length) :
    (∃ u, wr.cell? ⟨g, k * 2, none⟩ = some u) ∧ (∃ u, wr.cell? ⟨g, k * 2 + 1, none⟩ = some u) ∧ wr.frozen? ⟨g, k * 2, none⟩ = false ∧ wr.frozen? ⟨g, k * 2 + 1, none⟩ = false := by
  obtain ⟨cur, ho, _⟩ := h
  have hl := ho.1
  exact ⟨⟨cur[k * 2]'(by omega), by rw [ho.cellAt _ (by omega), List.getElem?_eq_getElem]⟩, ⟨cur[k * 2 + 1]'(by omega), by rw [ho.cellAt _ (by omega), List.getElem?_eq_getElem]⟩, ho.frozenAt _, ho.frozenAt _⟩
theorem gb_trans {a b c : World} {row : Option Nat} (h : a.grownBy b row) (k : b.grownBy c row) : a.grownBy c row :=
  ⟨k.os.trans h.os, k.tape.trans h.tape, k.output.trans h.output, Nat.le_trans h.size k.size, fun i hi hne => (k.block i (Nat.lt_of_lt_of_le hi h.size) hne).trans (h.block i hi hne)⟩
theorem Laid.step {base g c : Nat} {l : List Smp} {k : Nat} {wr : World} (h : Laid base g c l k wr) (hk : k < l.length) :
    Laid base g c l (k + 1) ((wr.setCell ⟨g, k * 2, none⟩ (.int .i64 l[k].1)).setCell ⟨g, k * 2 + 1, none⟩ (.float .f64 l[k].2)) := by
  obtain ⟨cur, ho, ht⟩ := h
  have hl := ho.1
  refine ⟨_, ((ho.stored (k * 2) _).1.stored (k * 2 + 1) _).1, ?_⟩
  rw [show (k + 1) * 2 = k * 2 + 2 by omega, take_pair (by omega), ht, List.take_succ_eq_append_getElem hk, cellsS_append]
  rfl
theorem Laid.done {base g c : Nat} {l : List Smp} {wr : World} (h : Laid base g c l l.length wr) : wr.ownsRow base 42 2 (.slice (some ⟨g, 0, none⟩) l.length c) l.length (cellsS l) := by
  obtain ⟨cur, ho, ht⟩ := h
  rw [List.take_length, List.take_of_length_le (by rw [ho.1]; exact Nat.le_refl _)] at ht
  rwa [ht] at ho
theorem Laid.below {base g c : Nat} {l : List Smp} {k : Nat} {wr w1 : World} (h : Laid base g c l k wr) (hb : Below wr.heap.size wr w1) : Laid base g c l k w1 := by
  obtain ⟨cur, ho, ht⟩ := h
  refine ⟨cur, ho.kept (row := none) ⟨hb.os, hb.tape, hb.output, hb.size, fun i hi _ => hb.block i hi⟩ ?_, ht⟩
  exact .inr (by simp [Value.ownBlock])
end Go.Proofs.Yteiefngamccapaa
