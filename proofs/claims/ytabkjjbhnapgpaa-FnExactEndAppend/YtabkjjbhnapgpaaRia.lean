/- Rows of numbers that a call owns or reads. Nothing of the program stands here but the numbers of its types. -/
import Derived.Test.YtabkjjbhnapgpaaProg
import Derived.Test.YtabkjjbhnapgpaaRiMath
import Derived.WalkKit
import Derived.ProofKit
import Derived.OpenShut
import Derived.KernelRfl
import Derived.Deep.OwnRows
import Derived.Deep.Slices
import Derived.Maps.AppendAt
import Derived.Maps.Range
import Derived.Deep.QuietTactic
import Derived.BigQuiet
import Derived.Deep.RegionHeld3
namespace Go.Proofs.Ytabkjjbhnapgpaa
open Go.RowKit Go.Deep Go.ChangeShapes Go.WideShapes Go.ChangeAt

theorem ret_int {k : IntKind} {a b : Int} (h : a = b) : Ending.returned (.int k a) = .returned (.int k b) := by rw [h]
theorem ret_bool {a b : Bool} (h : a = b) : Ending.returned (.bool a) = .returned (.bool b) := by rw [h]
theorem Try.info3 : (Try.prog.info? 3).map (fun i => (i.zero, i.size, i.bytes)) = some (some (.int .i64 0), 1, 8) := by kernel_rfl
theorem info_parts {P : Program} {e : TypeId} {z : Value} {s b : Nat} (h : (P.info? e).map (fun i => (i.zero, i.size, i.bytes)) = some (some z, s, b)) : ∃ i, P.info? e = some i ∧ i.zero = some z ∧ i.size = s ∧ i.bytes = b := by
  cases hi : P.info? e with
  | none => rw [hi] at h; cases h
  | some i => rw [hi] at h; simp at h; exact ⟨i, rfl, h.1, h.2.1, h.2.2⟩
theorem own_slice {w : World} {base : Nat} {e : TypeId} {size n : Nat} {v : Value} {xs : List Value} (h : w.ownsRow base e size v n xs) : ∃ ao c, v = .slice ao n c := by
  rcases h.2 with ⟨rfl, rfl⟩ | ⟨g, cap, cur, rfl, _⟩
  · exact ⟨_, _, rfl⟩
  · exact ⟨_, _, rfl⟩
theorem own_other {w w' : World} {base B : Nat} {e : TypeId} {s : Nat} {v : Value} {n : Nat} {xs : List Value} (h : w.ownsRow base e s v n xs) (hB : B < base) (hg : w.grownBy w' (some B)) : w'.ownsRow base e s v n xs := by
  refine h.kept hg ?_
  cases hv : v.ownBlock with
  | none => exact .inl rfl
  | some k => exact .inr (fun e => by have := (h.lt k hv).1; injection e with e; omega)
theorem gb_below {a b : World} {row : Option Nat} (h : Below a.heap.size a b) : a.grownBy b row := ⟨h.os, h.tape, h.output, h.size, fun i hi _ => h.block i hi⟩
theorem own_below {w w' : World} {base : Nat} {e : TypeId} {size n : Nat} {v : Value} {xs : List Value} (h : w.ownsRow base e size v n xs) (hb : Below w.heap.size w w') : w'.ownsRow base e size v n xs :=
  h.kept (row := none) (gb_below hb) (by cases hv : v.ownBlock <;> simp)
theorem own_grown {w w1 w2 : World} {base : Nat} {e : TypeId} {size n : Nat} {v : Value} {xs : List Value} (hb : Below w.heap.size w w1) (ho : w1.ownsRow base e size v n xs) (hg : w1.grownBy w2 v.ownBlock) (hbase : w.heap.size ≤ base) : Below w.heap.size w w2 :=
  hb.grown hg hb.size (fun k hk => Nat.le_trans hbase (ho.lt k hk).1)
/-- A row of one cell that was made just now. -/
theorem new_cell {w : World} {v : Value} {t : TypeId} : ∀ j u, [v][j]? = some u → (w.alloc (.cells #[v] t)).cell? ((⟨w.heap.size, 0, none⟩ : Addr).add j) = some u := by
  intro j u hj
  match j, hj with
  | 0, hj => simp at hj; subst hj; simp [Addr.add]
/-- A slice of numbers below block B. -/
def IRow (w : World) (B : Nat) (ao : Option Addr) (xs : List Int) : Prop :=
  (∀ x ∈ xs, In64 x) ∧ (0 < xs.length → ∃ b off, ao = some ⟨b, off, none⟩ ∧ b < B ∧ ∀ i (hi : i < xs.length), w.cell? ⟨b, off + i, none⟩ = some (.int .i64 xs[i]))
theorem IRow.after {w w' : World} {ao : Option Addr} {xs : List Int} (h : IRow w w.heap.size ao xs) (hb : Below w.heap.size w w') : IRow w' w'.heap.size ao xs :=
  ⟨h.1, fun hp => by
    obtain ⟨b, off, e, hl, hc⟩ := h.2 hp
    exact ⟨b, off, e, Nat.lt_of_lt_of_le hl hb.size, fun i hi => (hb.cell (p := ⟨b, off + i, none⟩) hl).trans (hc i hi)⟩⟩
theorem IRow.of_own {w : World} {base : Nat} {v : Value} {xs : List Int} (hx : ∀ x ∈ xs, In64 x) (h : w.ownsRow base 3 1 v xs.length (xs.map (Value.int .i64))) : ∃ ao cap, v = .slice ao xs.length cap ∧ IRow w w.heap.size ao xs := by
  obtain ⟨_, ⟨rfl, hn⟩ | ⟨g, cap, cur, rfl, hge, hh, hle, _, hsz, htk⟩⟩ := h
  · exact ⟨none, 0, by rw [hn], hx, fun hp => by omega⟩
  · refine ⟨_, cap, rfl, hx, fun hp => ⟨g, 0, rfl, (Array.getElem?_eq_some_iff.1 hh).1, fun i hi => ?_⟩⟩
    have e : cur.toList[i]? = some (.int .i64 xs[i]) := by
      have h2 : (cur.toList.take (xs.length * 1))[i]? = cur.toList[i]? := by rw [List.getElem?_take, if_pos (by omega)]
      rw [← h2, htk]
      simp [hi]
    have e' : cur[i]? = some (.int .i64 xs[i]) := by simpa using e
    rw [Nat.zero_add]
    simp [World.cell?, hh, e']

theorem IRow.keep {w w' : World} {B : Nat} {ao : Option Addr} {xs : List Int} (h : IRow w B ao xs) (hb : Below B w w') : IRow w' B ao xs :=
  ⟨h.1, fun hp => by
    obtain ⟨b, off, e, hl, hc⟩ := h.2 hp
    exact ⟨b, off, e, hl, fun i hi => (hb.cell (p := ⟨b, off + i, none⟩) hl).trans (hc i hi)⟩⟩
theorem IRow.more {w : World} {B C : Nat} {ao : Option Addr} {xs : List Int} (h : IRow w B ao xs) (hBC : B ≤ C) : IRow w C ao xs :=
  ⟨h.1, fun hp => by
    obtain ⟨b, off, e, hl, hc⟩ := h.2 hp
    exact ⟨b, off, e, by omega, hc⟩⟩
section
variable {H : Type} {enc : TypeId × Value → H} {P : Program} {w : World} {base : Nat} {spare : Nat → Bool} {held : Bool}
theorem open_intsl {t e : TypeId} {v : Value} {d : DataW H} {ps : List MemPlace} (ht : P.underlying t = some (.slice e)) (he : P.underlying e = some (.int .i64)) (hc : P.cellsOf e = 1)
    (hv : ∃ a l c, v = .slice a l c) (h : DataW.Trod enc P w base spare held t v d ps) : ∃ ao cap xs, v = .slice ao xs.length cap ∧ IRow w w.heap.size ao xs := by
  obtain ⟨a, l, c, rfl⟩ := hv
  obtain ⟨fuel, hf⟩ := h
  rcases open_slice1 ht hc hf with ⟨hcs, _⟩ | ⟨a', len, cap, m, n, V, D, Pl, hcs, _, hl, _, hm, _, hx⟩
  · simp [Value.cells] at hcs
    obtain ⟨rfl, rfl, rfl⟩ := hcs
    exact ⟨none, 0, [], rfl, fun x hx => by simp at hx, fun hp => by simp at hp⟩
  · simp [Value.cells] at hcs
    obtain ⟨rfl, rfl, rfl⟩ := hcs
    have hlm : l ≤ m := by rw [hm]; split <;> omega
    obtain ⟨B, hB⟩ := choose_lt (α := Int) (n := l) (p := fun i b => V i = .int .i64 b ∧ In64 b) (fun i hi => by
      obtain ⟨z, hz, _, hw⟩ := DataW.trod_int he (hx i (by omega)).2
      simp at hz
      exact ⟨z, hz, bounds_i64 hw⟩)
    refine ⟨some a', c, (List.range l).map B, by simp, ?_, ?_⟩
    · intro x hx
      simp at hx
      obtain ⟨i, hi, rfl⟩ := hx
      exact (hB i hi).2
    · intro hp
      simp at hp
      obtain ⟨b, off, spot⟩ := a'
      have h0 := (hx 0 (by omega)).1
      have hs : spot = none := by simpa [Addr.add] using World.cell?_spot h0
      subst hs
      refine ⟨b, off, rfl, ?_, ?_⟩
      · have : w.cell? ⟨b, off, none⟩ = some (V 0) := by simpa [Addr.add] using h0
        exact World.block_lt_of_cell? w _ this
      · intro i hi
        simp at hi
        have hi' := (hx i (by omega)).1
        rw [add_plain] at hi'
        rw [hi', (hB i hi).1]
        simp
end
/-- Block g holds N cells; the first n of them are the numbers f. -/
def RF (w : World) (g : Nat) (t : TypeId) (N n : Nat) (f : Nat → Int) : Prop := n ≤ N ∧ ∃ F : Nat → Value, (∀ i, i < n → F i = .int .i64 (f i)) ∧ w.rowIs g t N F
theorem RF.cell {w : World} {g : Nat} {t : TypeId} {N n : Nat} {f : Nat → Int} (h : RF w g t N n f) {i : Nat} (hi : i < n) : w.cell? ⟨g, i, none⟩ = some (.int .i64 (f i)) := by
  obtain ⟨hn, F, hF, hr⟩ := h
  rw [hr.cell (by omega), hF i hi]
theorem RF.frozen {w : World} {g : Nat} {t : TypeId} {N n : Nat} {f : Nat → Int} (h : RF w g t N n f) (i : Nat) : w.frozen? ⟨g, i, none⟩ = false := by
  obtain ⟨_, F, _, hr⟩ := h
  exact hr.frozen i
theorem RF.lt {w : World} {g : Nat} {t : TypeId} {N n : Nat} {f : Nat → Int} (h : RF w g t N n f) : g < w.heap.size := by
  obtain ⟨_, F, _, hr⟩ := h
  exact hr.lt
theorem RF.congr {w : World} {g : Nat} {t : TypeId} {N n : Nat} {f f' : Nat → Int} (h : RF w g t N n f) (he : ∀ i, i < n → f i = f' i) : RF w g t N n f' := by
  obtain ⟨hn, F, hF, hr⟩ := h
  exact ⟨hn, F, fun i hi => by rw [hF i hi, he i hi], hr⟩
theorem RF.set {w : World} {g : Nat} {t : TypeId} {N n : Nat} {f : Nat → Int} (h : RF w g t N n f) (i : Nat) (z : Int) : RF (w.setCell ⟨g, i, none⟩ (.int .i64 z)) g t N n (fun j => if j = i then z else f j) := by
  obtain ⟨hn, F, hF, hr⟩ := h
  refine ⟨hn, _, fun j hj => ?_, hr.set i (.int .i64 z)⟩
  by_cases e : j = i
  · simp [e]
  · simp [e, hF j hj]
theorem RF.of_block {w w' : World} {g : Nat} {t : TypeId} {N n : Nat} {f : Nat → Int} (h : RF w g t N n f) (e : w'.heap[g]? = w.heap[g]?) : RF w' g t N n f := by
  obtain ⟨hn, F, hF, hr⟩ := h
  exact ⟨hn, F, hF, hr.of_block e⟩
theorem RF.drew {w : World} {g : Nat} {t : TypeId} {N n : Nat} {f : Nat → Int} (h : RF w g t N n f) : RF w.drew g t N n f := h.of_block rfl
theorem RF.less {w : World} {g : Nat} {t : TypeId} {N n m : Nat} {f : Nat → Int} (h : RF w g t N n f) (hm : m ≤ n) : RF w g t N m f := by
  obtain ⟨hn, F, hF, hr⟩ := h
  exact ⟨by omega, F, fun i hi => hF i (by omega), hr⟩

theorem below_drewN2 {B : Nat} {w w' : World} (h : Below B w w') (q : Nat) : Below B w (w'.drewN q) := by
  induction q with
  | zero => exact h
  | succ q ih => exact ih.drew
theorem RF.below {w w' : World} {g : Nat} {t : TypeId} {N n : Nat} {f : Nat → Int} (h : RF w g t N n f) (hb : Below w.heap.size w w') : RF w' g t N n f := h.of_block (hb.block g h.lt)
theorem RF.irow {w : World} {g : Nat} {t : TypeId} {N : Nat} {xs : List Int} (h : RF w g t N xs.length (at0 xs)) (hx : ∀ x ∈ xs, In64 x) : IRow w w.heap.size (some ⟨g, 0, none⟩) xs :=
  ⟨hx, fun _ => ⟨g, 0, rfl, h.lt, fun i hi => by rw [Nat.zero_add, h.cell hi, at0_get hi]⟩⟩

theorem made_row (w : World) (n : Nat) : RF (w.alloc (.cells (madeCells #[.int .i64 0] n) 3)) w.heap.size 3 n n (fun _ => 0) :=
  ⟨Nat.le_refl _, _, fun _ _ => rfl, World.rowIs_made w (.int .i64 0) n 3⟩

/-- A slice of n numbers f, in a block of its own from B on. -/
def Row (w : World) (bo : Option Addr) (n c : Nat) (f : Nat → Int) (B : Nat) : Prop := n ≤ c ∧ (0 < n → ∃ g t N, bo = some ⟨g, 0, none⟩ ∧ B ≤ g ∧ RF w g t N n f)
theorem Row.congr {w : World} {bo : Option Addr} {n c : Nat} {f f' : Nat → Int} {B : Nat} (h : Row w bo n c f B) (he : ∀ i, i < n → f i = f' i) : Row w bo n c f' B :=
  ⟨h.1, fun hp => by obtain ⟨g, t, N, e, hB, hr⟩ := h.2 hp; exact ⟨g, t, N, e, hB, hr.congr he⟩⟩
theorem Row.below {w w' : World} {bo : Option Addr} {n c : Nat} {f : Nat → Int} {B : Nat} (h : Row w bo n c f B) (hb : Below w.heap.size w w') : Row w' bo n c f B :=
  ⟨h.1, fun hp => by obtain ⟨g, t, N, e, hB, hr⟩ := h.2 hp; exact ⟨g, t, N, e, hB, hr.below hb⟩⟩
theorem Row.of_own {w : World} {B : Nat} {v : Value} {l : List Int} (h : w.ownsRow B 3 1 v l.length (l.map (Value.int .i64))) : ∃ bo c, v = .slice bo l.length c ∧ Row w bo l.length c (at0 l) B := by
  obtain ⟨_, ⟨rfl, hn⟩ | ⟨g, cap, cur, rfl, hge, hh, hle, _, hsz, htk⟩⟩ := h
  · exact ⟨none, 0, by rw [hn], by omega, fun hp => by omega⟩
  · refine ⟨_, cap, rfl, hle, fun hp => ⟨g, 3, cap, rfl, hge, hle, fun i => cur.getD i undef, fun i hi => ?_, ?_⟩⟩
    · have e : cur.toList[i]? = some (.int .i64 l[i]) := by
        have h2 : (cur.toList.take (l.length * 1))[i]? = cur.toList[i]? := by rw [List.getElem?_take, if_pos (by omega)]
        rw [← h2, htk]
        simp [hi]
      have e' : cur[i]? = some (.int .i64 l[i]) := by simpa using e
      rw [at0_get hi]
      simp [Array.getD_eq_getD_getElem?, e']
    · have hc : cur.size = cap := by omega
      subst hc
      exact ⟨cur, hh, rfl, fun i hi => by simp [Array.getD_eq_getD_getElem?, hi]⟩

theorem Row.irow {w : World} {bo : Option Addr} {c B : Nat} {xs : List Int} (h : Row w bo xs.length c (at0 xs) B) (hx : ∀ x ∈ xs, In64 x) : IRow w w.heap.size bo xs :=
  ⟨hx, fun hp => by
    obtain ⟨g, t, N, rfl, _, hR⟩ := h.2 hp
    exact (hR.irow hx).2 hp⟩
theorem gb_set (w : World) (g i : Nat) (u : Value) : w.grownBy (w.setCell ⟨g, i, none⟩ u) (some g) :=
  ⟨rfl, rfl, rfl, by simp, fun k _ hne => Below.heap_setCell _ _ _ k (fun e => hne (by rw [e]))⟩
theorem own_apart {w w' : World} {base : Nat} {e : TypeId} {s n : Nat} {v : Value} {xs : List Value} {row : Option Nat} (h : w.ownsRow base e s v n xs) (hg : w.grownBy w' row) (hr : ∀ k, row = some k → k < base) : w'.ownsRow base e s v n xs := by
  refine h.kept hg ?_
  cases hv : v.ownBlock with
  | none => exact .inl rfl
  | some k => exact .inr (fun e => by have := (h.lt k hv).1; have := hr k e.symm; omega)
theorem Row.apart {w w' : World} {bo : Option Addr} {n c : Nat} {f : Nat → Int} {B : Nat} {row : Option Nat} (h : Row w bo n c f B) (hg : w.grownBy w' row) (hr : ∀ k, row = some k → k < B) : Row w' bo n c f B :=
  ⟨h.1, fun hp => by obtain ⟨g, t, N, e, hB, hR⟩ := h.2 hp; exact ⟨g, t, N, e, hB, hR.of_block (hg.block g hR.lt (fun e => by have := hr g e.symm; omega))⟩⟩
theorem RF.apart {w w' : World} {g : Nat} {t : TypeId} {N n : Nat} {f : Nat → Int} {row : Option Nat} (h : RF w g t N n f) (hg : w.grownBy w' row) (hr : row ≠ some g) : RF w' g t N n f := h.of_block (hg.block g h.lt (fun e => hr e.symm))

end Go.Proofs.Ytabkjjbhnapgpaa
