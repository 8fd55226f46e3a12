/- How a list lies in memory, each entry in the same number of cells: a list that came in, one that the call itself made, and one that is being laid entry by entry. Nothing of any program stands here. -/
import Derived.Test.YteiefngamccapaaSr
import Derived.Maps.AppendAt
namespace Go.Proofs.Yteiefngamccapaa
open Go.RowKit Go.Deep Go.WideShapes

section
variable {α : Type} {s : Nat} {f : α → List Value}

def cellsG (f : α → List Value) (l : List α) : List Value := l.flatMap f
theorem cellsG_length (hf : ∀ x, (f x).length = s) (l : List α) : (cellsG f l).length = l.length * s := by
  induction l with
  | nil => simp [cellsG]
  | cons x l ih =>
    simp only [cellsG] at ih
    simp only [cellsG, List.flatMap_cons, List.length_append, List.length_cons, ih, hf]
    rw [Nat.add_mul, Nat.one_mul, Nat.add_comm]
theorem cellsG_append (a b : List α) : cellsG f (a ++ b) = cellsG f a ++ cellsG f b := by simp [cellsG]
theorem cellsG_at (hf : ∀ x, (f x).length = s) : ∀ {l : List α} {k j : Nat} (hk : k < l.length) (_ : j < s), (cellsG f l)[k * s + j]? = (f l[k])[j]?
  | [], k, j, hk, _ => by simp at hk
  | x :: l, 0, j, _, hj => by
    simp only [cellsG, List.flatMap_cons, Nat.zero_mul, Nat.zero_add, List.getElem_cons_zero]
    rw [List.getElem?_append_left (by rw [hf]; exact hj)]
  | x :: l, k + 1, j, hk, hj => by
    have ih := cellsG_at hf (l := l) (k := k) (j := j) (by simpa using hk) hj
    simp only [cellsG, List.flatMap_cons, List.getElem_cons_succ] at ih ⊢
    rw [List.getElem?_append_right (by rw [hf, Nat.add_mul, Nat.one_mul]; omega), hf, ← ih]
    congr 1
    rw [Nat.add_mul, Nat.one_mul]; omega

/-- The slice (ao, l.length) holds the list l, in a block below B. -/
def GR (s : Nat) (f : α → List Value) (w : World) (B : Nat) (ao : Option Addr) (l : List α) : Prop :=
  0 < l.length → ∃ b off, ao = some ⟨b, off, none⟩ ∧ b < B ∧ ∀ k (h : k < l.length) j v, (f (l[k]'h))[j]? = some v → w.cell? ⟨b, off + k * s + j, none⟩ = some v
theorem GR.nil (w : World) (B : Nat) (ao : Option Addr) : GR s f w B ao [] := fun h => absurd h (by simp)
theorem GR.keep {w w' : World} {B : Nat} {ao : Option Addr} {l : List α} (h : GR s f w B ao l) (hk : ∀ p : Addr, p.block < B → w'.cell? p = w.cell? p) : GR s f w' B ao l := fun hl => by
  obtain ⟨b, off, e, hb, hc⟩ := h hl
  exact ⟨b, off, e, hb, fun k hk' j v hv => (hk _ hb).trans (hc k hk' j v hv)⟩
theorem GR.more {w : World} {B B' : Nat} {ao : Option Addr} {l : List α} (h : GR s f w B ao l) (hB : B ≤ B') : GR s f w B' ao l := fun hl => by
  obtain ⟨b, off, e, hb, hc⟩ := h hl
  exact ⟨b, off, e, Nat.lt_of_lt_of_le hb hB, hc⟩
theorem GR.below {w w' : World} {B : Nat} {ao : Option Addr} {l : List α} (h : GR s f w B ao l) (hb : Below B w w') : GR s f w' B ao l := h.keep fun _ hp => hb.cell hp
theorem GR.after {w w' : World} {ao : Option Addr} {l : List α} (h : GR s f w w.heap.size ao l) (hb : Below w.heap.size w w') : GR s f w' w'.heap.size ao l := (h.below hb).more hb.size
theorem GR.take {w : World} {B : Nat} {ao : Option Addr} {l : List α} (h : GR s f w B ao l) (k : Nat) : GR s f w B ao (l.take k) := fun hl => by
  rw [List.length_take] at hl
  obtain ⟨b, off, e, hb, hc⟩ := h (by omega)
  refine ⟨b, off, e, hb, fun j hj => ?_⟩
  rw [List.length_take] at hj
  rw [List.getElem_take]
  exact hc j (by omega)

/-- The entries of a row that the call owns are read from it. -/
theorem GR.of_own (hf : ∀ x, (f x).length = s) {w : World} {base : Nat} {e : TypeId} {ao : Option Addr} {c : Nat} {l : List α} (h : w.ownsRow base e s (.slice ao l.length c) l.length (cellsG f l)) : GR s f w w.heap.size ao l := fun hl => by
  obtain ⟨g, cap, hv, _, hlt⟩ := h.form (by omega)
  injection hv with hA
  subst hA
  have hc := h.cells (g := g) rfl
  refine ⟨g, 0, rfl, hlt, fun k hk j v hv => ?_⟩
  have hj : j < s := by have := (List.getElem?_eq_some_iff.1 hv).1; rwa [hf] at this
  have := hc (k * s + j) v (by rw [cellsG_at hf hk hj]; exact hv)
  rwa [add_plain, ← Nat.add_assoc] at this
theorem GR.of_own' (hf : ∀ x, (f x).length = s) {w : World} {base : Nat} {e : TypeId} {v : Value} {l : List α} (h : w.ownsRow base e s v l.length (cellsG f l)) : ∃ ao c, v = .slice ao l.length c ∧ GR s f w w.heap.size ao l := by
  obtain ⟨ao, c, rfl⟩ := own_slice h
  exact ⟨ao, c, rfl, GR.of_own hf h⟩

/-- The first k entries have been laid. -/
def LaidG (base : Nat) (t : TypeId) (s : Nat) (f : α → List Value) (g n c : Nat) (l : List α) (k : Nat) (wr : World) : Prop :=
  ∃ cur, wr.ownsRow base t s (.slice (some ⟨g, 0, none⟩) n c) n cur ∧ ∀ i (h : i < l.length), i < k → ∀ j, j < s → cur[i * s + j]? = (f (l[i]'h))[j]?
theorem LaidG.start {base : Nat} {t : TypeId} {g n c : Nat} {l : List α} {wr : World} {xs : List Value} (h : wr.ownsRow base t s (.slice (some ⟨g, 0, none⟩) n c) n xs) : LaidG base t s f g n c l 0 wr := ⟨xs, h, fun i _ hi => absurd hi (by omega)⟩
theorem LaidG.at {base : Nat} {t : TypeId} {g n c : Nat} {l : List α} {k : Nat} {wr : World} (h : LaidG base t s f g n c l k wr) (hk : k < n) (j : Nat) (hj : j < s) :
    (∃ u, wr.cell? ⟨g, k * s + j, none⟩ = some u) ∧ wr.frozen? ⟨g, k * s + j, none⟩ = false := by
  obtain ⟨cur, ho, _⟩ := h
  have hl := ho.1
  have hlt : k * s + j < n * s := by
    have h1 : (k + 1) * s ≤ n * s := Nat.mul_le_mul_right s hk
    rw [Nat.add_mul, Nat.one_mul] at h1
    omega
  exact ⟨⟨cur[k * s + j]'(by omega), by rw [ho.cellAt _ hlt, List.getElem?_eq_getElem]⟩, ho.frozenAt _⟩
theorem LaidG.below {base : Nat} {t : TypeId} {g n c : Nat} {l : List α} {k : Nat} {wr w1 : World} (h : LaidG base t s f g n c l k wr) (hb : Below wr.heap.size wr w1) : LaidG base t s f g n c l k w1 := by
  obtain ⟨cur, ho, ht⟩ := h
  exact ⟨cur, own_below ho hb, ht⟩
theorem LaidG.done (hf : ∀ x, (f x).length = s) {base : Nat} {t : TypeId} {g c : Nat} {l : List α} {wr : World} (h : LaidG base t s f g l.length c l l.length wr) : wr.ownsRow base t s (.slice (some ⟨g, 0, none⟩) l.length c) l.length (cellsG f l) := by
  obtain ⟨cur, ho, ht⟩ := h
  have hl := ho.1
  have hc := cellsG_length hf l
  have e : cur = cellsG f l := by
    apply List.ext_getElem?
    intro i
    by_cases hi : i < l.length * s
    · have hs : 0 < s := Nat.pos_of_ne_zero fun e => by subst e; simp at hi
      have hd : i = i / s * s + i % s := by rw [Nat.mul_comm]; exact (Nat.div_add_mod i s).symm
      have hk : i / s < l.length := Nat.div_lt_of_lt_mul (by rw [Nat.mul_comm]; exact hi)
      have hm : i % s < s := Nat.mod_lt _ hs
      rw [hd, ht _ hk hk _ hm, cellsG_at hf hk hm]
    · rw [List.getElem?_eq_none (by omega), List.getElem?_eq_none (by omega)]
  rwa [e] at ho
/-- One entry of four cells more. -/
theorem LaidG.step4 {f : α → List Value} {base : Nat} {t : TypeId} {g n c : Nat} {l : List α} {k : Nat} {wr : World} {x0 x1 x2 x3 : Value} (h : LaidG base t 4 f g n c l k wr) (hn : k < n) (hx : ∀ h : k < l.length, f l[k] = [x0, x1, x2, x3]) :
    LaidG base t 4 f g n c l (k + 1) ((((wr.setCell ⟨g, k * 4, none⟩ x0).setCell ⟨g, k * 4 + 1, none⟩ x1).setCell ⟨g, k * 4 + 2, none⟩ x2).setCell ⟨g, k * 4 + 3, none⟩ x3) ∧
    wr.grownBy ((((wr.setCell ⟨g, k * 4, none⟩ x0).setCell ⟨g, k * 4 + 1, none⟩ x1).setCell ⟨g, k * 4 + 2, none⟩ x2).setCell ⟨g, k * 4 + 3, none⟩ x3) (some g) := by
  obtain ⟨cur, ho, ht⟩ := h
  have hl := ho.1
  have a0 := ho.stored (k * 4) x0
  have a1 := a0.1.stored (k * 4 + 1) x1
  have a2 := a1.1.stored (k * 4 + 2) x2
  have a3 := a2.1.stored (k * 4 + 3) x3
  refine ⟨⟨_, a3.1, fun i hi hik j hj => ?_⟩, gb_trans (gb_trans (gb_trans a0.2 a1.2) a2.2) a3.2⟩
  by_cases e : i = k
  · subst e
    rw [hx hi]
    match j, hj with
    | 0, _ => rw [List.getElem?_set_ne (by omega), List.getElem?_set_ne (by omega), List.getElem?_set_ne (by omega), Nat.add_zero, List.getElem?_set_self (by omega)]; rfl
    | 1, _ => rw [List.getElem?_set_ne (by omega), List.getElem?_set_ne (by omega), List.getElem?_set_self (by simp; omega)]; rfl
    | 2, _ => rw [List.getElem?_set_ne (by omega), List.getElem?_set_self (by simp; omega)]; rfl
    | 3, _ => rw [List.getElem?_set_self (by simp; omega)]; rfl
  · rw [List.getElem?_set_ne (by omega), List.getElem?_set_ne (by omega), List.getElem?_set_ne (by omega), List.getElem?_set_ne (by omega)]
    exact ht i hi (by omega) j hj
end
/-- What is appended: m entries' cells at some address, or none. -/
def SrcA (s : Nat) (w : World) (A : Option Addr) (m : Nat) (news : List Value) : Prop := news.length = m * s ∧ (A = none → m = 0) ∧ ∀ ad, A = some ad → ∀ j u, news[j]? = some u → w.cell? (ad.add j) = some u
theorem GR.srcA {α : Type} {s : Nat} {f : α → List Value} (hf : ∀ x, (f x).length = s) {w : World} {B : Nat} {ao : Option Addr} {l : List α} (h : GR s f w B ao l) : SrcA s w ao l.length (cellsG f l) := by
  refine ⟨cellsG_length hf l, fun e => ?_, fun ad e j u hu => ?_⟩
  · subst e
    rcases Nat.eq_zero_or_pos l.length with h0 | h0
    · exact h0
    · obtain ⟨b, off, e, _⟩ := h h0; cases e
  · have hj := (List.getElem?_eq_some_iff.1 hu).1
    rw [cellsG_length hf] at hj
    have hs : 0 < s := Nat.pos_of_ne_zero fun e => by subst e; simp at hj
    have hl : 0 < l.length := Nat.pos_of_ne_zero fun e => by rw [e] at hj; simp at hj
    obtain ⟨b, off, e', _, hc⟩ := h hl
    rw [e] at e'
    injection e' with e'
    subst e'
    have hd : j = j / s * s + j % s := by rw [Nat.mul_comm]; exact (Nat.div_add_mod j s).symm
    have hk : j / s < l.length := Nat.div_lt_of_lt_mul (by rw [Nat.mul_comm]; exact hj)
    have hm : j % s < s := Nat.mod_lt _ hs
    rw [hd, cellsG_at hf hk hm] at hu
    have := hc _ hk _ _ hu
    rw [add_plain, hd, ← Nat.add_assoc]
    exact this
theorem SrcA.keep {s : Nat} {w w' : World} {B : Nat} {A : Option Addr} {m : Nat} {news : List Value} (h : SrcA s w A m news) (hB : ∀ ad, A = some ad → ad.block < B) (hk : ∀ p : Addr, p.block < B → w'.cell? p = w.cell? p) : SrcA s w' A m news :=
  ⟨h.1, h.2.1, fun ad e j u hu => (hk _ (by unfold Addr.add; split <;> exact hB ad e)).trans (h.2.2 ad e j u hu)⟩
/-- 'append' onto a row of the call's own, whatever slice is appended. -/
theorem run_append_any {P : Program} {t ty e : TypeId} {i0 : TypeInfo} {z : Value} {s bytes : Nat} (ht : P.underlying t = some (.slice e)) (hi : P.info? e = some i0) (hz : i0.zero = some z) (hs0 : i0.size = s) (hby : i0.bytes = bytes) (hzs : z.cells.size = s) (hsp : 0 < s)
    (w : World) (base : Nat) (v : Value) (n : Nat) (xs : List Value) (hown : w.ownsRow base e s v n xs) (A : Option Addr) (m c : Nat) (news : List Value) (hs : SrcA s w A m news)
    (h1 : ∀ u ∈ news, u.oneCell' = true) (hb : n + m ≤ maxLen) (hb2 : (n + m) * bytes ≤ 140737488355328) (hbase : base ≤ w.heap.size) :
    ∃ v' w', (Builtin.append_ #[t, t] ty #[v, .slice A m c]).run P w = .ok v' w' ∧ w'.ownsRow base e s v' (n + m) (xs ++ news) ∧ w.grownBy w' v.ownBlock := by
  cases A with
  | none =>
    obtain rfl := hs.2.1 rfl
    obtain rfl : news = [] := List.eq_nil_of_length_eq_zero (by simpa using hs.1)
    refine ⟨v, w, ?_, by simpa using hown, World.grownBy.refl _ _⟩
    rcases hown.2 with ⟨rfl, rfl⟩ | ⟨g, cap, cur, rfl, _, _, hnc, _⟩
    · simp [Builtin.append_, run_underlying ht, Go.sizeOf, typeInfo, hi, Builtin.lenOf, Builtin.firstCells]
    · simp [Builtin.append_, run_underlying ht, Go.sizeOf, typeInfo, hi, Builtin.lenOf, Builtin.firstCells, hnc, storeCells]
  | some ad =>
    obtain ⟨v', w', hr, h2, h3, _, h5⟩ := run_append_own_at (P := P) w base t ty e i0 z s bytes ht hi hz hs0 hby hzs hsp v n xs hown ad m c news hs.1 (hs.2.2 ad rfl) h1 hb hb2 hbase
    exact ⟨v', w', hr, h2, h3⟩
theorem wpList_append_any {P : Program} {t e : TypeId} {i0 : TypeInfo} {z : Value} {s bytes : Nat} {ops : Array Oper} {rest : List Oper} {o : Oper} {a : Act} (w : World) {Q : Exit → Act → World → Prop} (hgd : o.guard = none) (sl x : Operand) (ho : o.op = .call { callee := .builtin .append, args := #[sl, x], argTypes := #[t, t] })
    (ht : P.underlying t = some (.slice e)) (hi : P.info? e = some i0) (hz : i0.zero = some z) (hs0 : i0.size = s) (hby : i0.bytes = bytes) (hzs : z.cells.size = s) (hsp : 0 < s)
    (base : Nat) (v : Value) (n : Nat) (xs : List Value) (hv : a.eval sl = v) (hown : w.ownsRow base e s v n xs) (A : Option Addr) (m c : Nat) (news : List Value) (hx : a.eval x = .slice A m c) (hs : SrcA s w A m news)
    (h1 : ∀ u ∈ news, u.oneCell' = true) (hb : n + m ≤ maxLen) (hb2 : (n + m) * bytes ≤ 140737488355328) (hbase : base ≤ w.heap.size)
    (h : ∀ v' w', w'.ownsRow base e s v' (n + m) (xs ++ news) → w.grownBy w' v.ownBlock → wpList P ops Q rest (a.put o.dst v') w') : wpList P ops Q (o :: rest) a w := by
  refine wpList_plain hgd fun K hK => ?_
  obtain ⟨v', w', hr, h2, h3⟩ := run_append_any (ty := o.type) ht hi hz hs0 hby hzs hsp w base v n xs hown A m c news hs h1 hb hb2 hbase
  unfold Oper.wp execOp
  simp only [ho, resolve, invoke, builtin, Sem.run_bind, Sem.run_pure, Result.andThen_ok, List.map_toArray, List.map_cons, List.map_nil, hv, hx, hr]
  exact hK _ _ (h v' w' h2 h3)
end Go.Proofs.Yteiefngamccapaa
