/- Appending whatever slice to a row of the call's own; rows that others' writing leaves alone; rows of entries of three cells. Nothing of the program stands here. -/
import Derived.Test.YtabkjjbhnapgpaaVl
namespace Go.Proofs.Ytabkjjbhnapgpaa
open Go.RowKit Go.Deep Go.ChangeShapes Go.WideShapes Go.ChangeAt

/-- What is appended: m entries' cells at some address, or none. -/
def SrcA (s : Nat) (w : World) (A : Option Addr) (m : Nat) (news : List Value) : Prop := news.length = m * s ∧ (A = none → m = 0) ∧ ∀ ad, A = some ad → ∀ j u, news[j]? = some u → w.cell? (ad.add j) = some u
theorem own_empty0 {W : World} {base h s : Nat} {t : TypeId} (hh : W.heap[h]? = some (.cells #[] t)) (hb : base ≤ h) : W.ownsRow base t s (.slice (some ⟨h, 0, none⟩) 0 0) 0 [] :=
  ⟨by simp, .inr ⟨h, 0, #[], rfl, hb, hh, Nat.le_refl _, by unfold maxLen; omega, by simp, by simp⟩⟩
theorem own_lower {w : World} {base base' : Nat} {e : TypeId} {s : Nat} {v : Value} {n : Nat} {xs : List Value} (h : w.ownsRow base e s v n xs) (hB : base' ≤ base) : w.ownsRow base' e s v n xs := by
  obtain ⟨h0, ⟨h1, h2⟩ | ⟨g, cap, cur, h1, hge, hr⟩⟩ := h
  · exact ⟨h0, .inl ⟨h1, h2⟩⟩
  · exact ⟨h0, .inr ⟨g, cap, cur, h1, Nat.le_trans hB hge, hr⟩⟩
theorem own_set {w : World} {base g i : Nat} {e : TypeId} {s n : Nat} {v u : Value} {xs : List Value} (h : w.ownsRow base e s v n xs) (hg : g < base) : (w.setCell ⟨g, i, none⟩ u).ownsRow base e s v n xs := own_other h hg (gb_set w g i u)
theorem own_put {w : World} {base g i : Nat} {e : TypeId} {s n : Nat} {v u : Value} {xs : List Value} (h : w.ownsRow base e s v n xs) (hg : v.ownBlock ≠ some g) : (w.setCell ⟨g, i, none⟩ u).ownsRow base e s v n xs :=
  h.kept (gb_set w g i u) (.inr hg)
theorem own_form {w : World} {base : Nat} {e : TypeId} {s n c : Nat} {ao : Option Addr} {xs : List Value} (h : w.ownsRow base e s (.slice ao n c) n xs) : n ≤ c ∧ (ao = none → c = 0) ∧ (∀ ad, ao = some ad → ∃ b, ad = ⟨b, 0, none⟩) := by
  obtain ⟨_, ⟨he, hn⟩ | ⟨g, cap, cur, he, _, _, hle, _⟩⟩ := h
  · injection he with h1 h2 h3
    subst h1; subst h3
    exact ⟨by omega, (fun _ => rfl), (fun ad e => by cases e)⟩
  · injection he with h1 h2 h3
    subst h1; subst h3
    exact ⟨hle, (fun e => by cases e), (fun ad e => by injection e with e; exact ⟨g, e.symm⟩)⟩
theorem gb_trans {a b c : World} {row : Option Nat} (h : a.grownBy b row) (k : b.grownBy c row) : a.grownBy c row :=
  ⟨k.os.trans h.os, k.tape.trans h.tape, k.output.trans h.output, Nat.le_trans h.size k.size, fun i hi hne => (k.block i (Nat.lt_of_lt_of_le hi h.size) hne).trans (h.block i hi hne)⟩
theorem gb_off {w a b : World} {row row' : Option Nat} (h : w.grownBy a row) (k : a.grownBy b row') (hr : ∀ g, row' = some g → w.heap.size ≤ g) : w.grownBy b row :=
  ⟨k.os.trans h.os, k.tape.trans h.tape, k.output.trans h.output, Nat.le_trans h.size k.size, fun i hi hne => (k.block i (Nat.lt_of_lt_of_le hi h.size) (fun e => by have := hr i e.symm; omega)).trans (h.block i hi hne)⟩
theorem Only.of_grown {w w' : World} {row : Option Nat} (h : w.grownBy w' row) (hf : ∀ p : Addr, p.block < w.heap.size → w'.frozen? p = w.frozen? p) : Only (fun i => some i = row) w w' := ⟨h.os, h.tape, h.output, h.size, fun i hi hn => h.block i hi hn, hf⟩
theorem B3.apart {w w' : World} {g : Nat} {a b c : Value} {row : Option Nat} (h : B3 w g a b c) (hg : w.grownBy w' row) (hr : row ≠ some g) : B3 w' g a b c := by
  obtain ⟨t, h⟩ := h
  exact ⟨t, (hg.block g (Array.getElem?_eq_some_iff.1 h).1 (fun e => hr e.symm)).trans h⟩
theorem B3.set0 {w : World} {g : Nat} {a b c : Value} (h : B3 w g a b c) (x : Value) : B3 (w.setCell ⟨g, 0, none⟩ x) g x b c := by
  obtain ⟨t, h⟩ := h
  exact ⟨t, by simp [World.setCell, Array.getElem?_modify, h]⟩
/-- A new block of one entry of three cells, as what is appended. -/
theorem src_three (W : World) (a b c : Value) (t : TypeId) : SrcA 3 (W.alloc (.cells #[a, b, c] t)) (some ⟨W.heap.size, 0, none⟩) 1 [a, b, c] := by
  refine ⟨rfl, (fun h => by cases h), fun ad e j u hu => ?_⟩
  injection e with e
  subst e
  match j, hu with
  | 0, hu => simp at hu; subst hu; simp [Addr.add]
  | 1, hu => simp at hu; subst hu; simp [Addr.add]
  | 2, hu => simp at hu; subst hu; simp [Addr.add]
theorem src_one (W : World) (a : Value) (t : TypeId) : SrcA 1 (W.alloc (.cells #[a] t)) (some ⟨W.heap.size, 0, none⟩) 1 [a] := by
  refine ⟨rfl, (fun h => by cases h), fun ad e j u hu => ?_⟩
  injection e with e
  subst e
  match j, hu with
  | 0, hu => simp at hu; subst hu; simp [Addr.add]
theorem IRow.src {w : World} {B : Nat} {ao : Option Addr} {l : List Int} (h : IRow w B ao l) : SrcA 1 w ao l.length (l.map (Value.int .i64)) := by
  refine ⟨by simp, fun e => ?_, fun ad e j u hu => ?_⟩
  · by_cases hp : 0 < l.length
    · obtain ⟨b, off, he, _⟩ := h.2 hp
      rw [e] at he; cases he
    · omega
  · rw [List.getElem?_map] at hu
    cases hj : l[j]? with
    | none => rw [hj] at hu; cases hu
    | some x =>
      rw [hj] at hu
      injection hu with hu
      subst hu
      obtain ⟨hlt, hx⟩ := List.getElem?_eq_some_iff.1 hj
      obtain ⟨b, off, he, _, hc⟩ := h.2 (by omega)
      rw [e] at he
      injection he with he
      subst he
      rw [add_plain, hc j hlt, hx]
theorem ones_int (l : List Int) : ∀ u ∈ l.map (Value.int .i64), u.oneCell' = true := by
  intro u hu
  rw [List.mem_map] at hu
  obtain ⟨x, _, rfl⟩ := hu
  rfl
theorem irow_own {w : World} {base : Nat} {t : TypeId} {c : Nat} {ao : Option Addr} {l : List Int} (hl : ∀ x ∈ l, In64 x) (h : w.ownsRow base t 1 (.slice ao l.length c) l.length (l.map (Value.int .i64))) : IRow w w.heap.size ao l :=
  ⟨hl, fun hp => by
    obtain ⟨_, ⟨he, hn⟩ | ⟨g, cap, cur, he, _, _, _⟩⟩ := id h
    · omega
    · injection he with h1 h2 h3
      subst h1
      refine ⟨g, 0, rfl, (h.lt g rfl).2, fun i hi => ?_⟩
      have h2 := h.cellAt i (by omega)
      rw [Nat.zero_add, h2]
      simp [hi]⟩
theorem own_free {w : World} {base : Nat} {t : TypeId} {s n c : Nat} {ao : Option Addr} {xs : List Value} (h : w.ownsRow base t s (.slice ao n c) n xs) (hp : 0 < n) : base ≤ blk ao ∧ ∀ i, w.frozen? ⟨blk ao, i, none⟩ = false := by
  obtain ⟨_, ⟨he, hn⟩ | ⟨g, cap, cur, he, hge, _⟩⟩ := id h
  · omega
  · injection he with h1 h2 h3
    subst h1
    exact ⟨hge, fun i => h.frozenAt i⟩

/-- 'append' onto a row of the call's own, whatever slice is appended, and which block it then lies in. -/
theorem run_append_more {P : Program} {t ty e : TypeId} {i0 : TypeInfo} {z : Value} {s bytes : Nat} (ht : P.underlying t = some (.slice e)) (hi : P.info? e = some i0) (hz : i0.zero = some z) (hs0 : i0.size = s) (hby : i0.bytes = bytes) (hzs : z.cells.size = s) (hsp : 0 < s)
    (w : World) (base : Nat) (v : Value) (n : Nat) (xs : List Value) (hown : w.ownsRow base e s v n xs) (A : Option Addr) (m c : Nat) (news : List Value) (hs : SrcA s w A m news)
    (h1 : ∀ u ∈ news, u.oneCell' = true) (hb : n + m ≤ maxLen) (hb2 : (n + m) * bytes ≤ 140737488355328) (hbase : base ≤ w.heap.size) :
    ∃ v' w', (Builtin.append_ #[t, t] ty #[v, .slice A m c]).run P w = .ok v' w' ∧ w'.ownsRow base e s v' (n + m) (xs ++ news) ∧ w.grownBy w' v.ownBlock ∧ (v'.ownBlock = v.ownBlock ∨ v'.ownBlock = some w.heap.size) := by
  cases A with
  | none =>
    obtain rfl := hs.2.1 rfl
    obtain rfl : news = [] := List.eq_nil_of_length_eq_zero (by simpa using hs.1)
    refine ⟨v, w, ?_, by simpa using hown, World.grownBy.refl _ _, .inl rfl⟩
    rcases hown.2 with ⟨rfl, rfl⟩ | ⟨g, cap, cur, rfl, _, _, hnc, _⟩
    · simp [Builtin.append_, run_underlying ht, Go.sizeOf, typeInfo, hi, Builtin.lenOf, Builtin.firstCells]
    · simp [Builtin.append_, run_underlying ht, Go.sizeOf, typeInfo, hi, Builtin.lenOf, Builtin.firstCells, hnc, storeCells]
  | some ad =>
    obtain ⟨v', w', hr, h2, h3, _, h5⟩ := run_append_own_at (P := P) w base t ty e i0 z s bytes ht hi hz hs0 hby hzs hsp v n xs hown ad m c news hs.1 (hs.2.2 ad rfl) h1 hb hb2 hbase
    exact ⟨v', w', hr, h2, h3, h5⟩
theorem wpList_append_more {P : Program} {t e : TypeId} {i0 : TypeInfo} {z : Value} {s bytes : Nat} {ops : Array Oper} {rest : List Oper} {o : Oper} {a : Act} (w : World) {Q : Exit → Act → World → Prop} (hgd : o.guard = none) (sl x : Operand) (ho : o.op = .call { callee := .builtin .append, args := #[sl, x], argTypes := #[t, t] })
    (ht : P.underlying t = some (.slice e)) (hi : P.info? e = some i0) (hz : i0.zero = some z) (hs0 : i0.size = s) (hby : i0.bytes = bytes) (hzs : z.cells.size = s) (hsp : 0 < s)
    (base : Nat) (v : Value) (n : Nat) (xs : List Value) (hv : a.eval sl = v) (hown : w.ownsRow base e s v n xs) (A : Option Addr) (m c : Nat) (news : List Value) (hx : a.eval x = .slice A m c) (hs : SrcA s w A m news)
    (h1 : ∀ u ∈ news, u.oneCell' = true) (hb : n + m ≤ maxLen) (hb2 : (n + m) * bytes ≤ 140737488355328) (hbase : base ≤ w.heap.size)
    (h : ∀ v' w', w'.ownsRow base e s v' (n + m) (xs ++ news) → w.grownBy w' v.ownBlock → (v'.ownBlock = v.ownBlock ∨ v'.ownBlock = some w.heap.size) → wpList P ops Q rest (a.put o.dst v') w') : wpList P ops Q (o :: rest) a w := by
  refine wpList_plain hgd fun K hK => ?_
  obtain ⟨v', w', hr, h2, h3, h4⟩ := run_append_more (ty := o.type) ht hi hz hs0 hby hzs hsp w base v n xs hown A m c news hs h1 hb hb2 hbase
  unfold Oper.wp execOp
  simp only [ho, resolve, invoke, builtin, Sem.run_bind, Sem.run_pure, Result.andThen_ok, List.map_toArray, List.map_cons, List.map_nil, hv, hx, hr]
  exact hK _ _ (h v' w' h2 h3 h4)
theorem step_append_any {P : Program} {t e : TypeId} {i0 : TypeInfo} {z : Value} {s bytes : Nat} {ops : Array Oper} {o : Oper} {a : Act} (w : World) {K : Act → World → Prop} {Q : Exit → Act → World → Prop} {E : Prop} (hgd : o.guard = none) (sl x : Operand) (ho : o.op = .call { callee := .builtin .append, args := #[sl, x], argTypes := #[t, t] })
    (ht : P.underlying t = some (.slice e)) (hi : P.info? e = some i0) (hz : i0.zero = some z) (hs0 : i0.size = s) (hby : i0.bytes = bytes) (hzs : z.cells.size = s) (hsp : 0 < s)
    (base : Nat) (v : Value) (n : Nat) (xs : List Value) (hv : a.eval sl = v) (hown : w.ownsRow base e s v n xs) (A : Option Addr) (m c : Nat) (news : List Value) (hx : a.eval x = .slice A m c) (hs : SrcA s w A m news)
    (h1 : ∀ u ∈ news, u.oneCell' = true) (hb : n + m ≤ maxLen) (hb2 : (n + m) * bytes ≤ 140737488355328) (hbase : base ≤ w.heap.size)
    (h : ∀ v' w', w'.ownsRow base e s v' (n + m) (xs ++ news) → w.grownBy w' v.ownBlock → (v'.ownBlock = v.ownBlock ∨ v'.ownBlock = some w.heap.size) → K (a.put o.dst v') w') :
    if Region.wanted o (yielded ops a.tmps) = true then Oper.wp P o a w K Q else E := by
  have hw : Region.wanted o (yielded ops a.tmps) = true := by simp [Region.wanted, hgd]
  rw [if_pos hw]
  obtain ⟨v', w', hr, h2, h3, h4⟩ := run_append_more (ty := o.type) ht hi hz hs0 hby hzs hsp w base v n xs hown A m c news hs h1 hb hb2 hbase
  unfold Oper.wp execOp
  simp only [ho, resolve, invoke, builtin, Sem.run_bind, Sem.run_pure, Result.andThen_ok, List.map_toArray, List.map_cons, List.map_nil, hv, hx, hr]
  exact h v' w' h2 h3 h4

/-- The cells of the first k entries. -/
def cellsF (f : Vw → List Value) (g : Nat → Vw) : Nat → List Value
  | 0 => []
  | k + 1 => cellsF f g k ++ f (g k)
theorem cellsF_len {f : Vw → List Value} (hf : ∀ v, (f v).length = 3) (g : Nat → Vw) : ∀ n, (cellsF f g n).length = n * 3
  | 0 => rfl
  | n + 1 => by
    show (cellsF f g n ++ f (g n)).length = _
    rw [List.length_append, cellsF_len hf g n, hf]; omega
theorem cellsF_at {f : Vw → List Value} (hf : ∀ v, (f v).length = 3) (g : Nat → Vw) : ∀ {n k j : Nat}, k < n → j < 3 → (cellsF f g n)[k * 3 + j]? = (f (g k))[j]?
  | 0, k, j, hk, _ => by omega
  | n + 1, k, j, hk, hj => by
    show (cellsF f g n ++ f (g n))[k * 3 + j]? = _
    have hl := cellsF_len hf g n
    by_cases e : k = n
    · subst e
      rw [List.getElem?_append_right (by omega), hl]
      congr 1; omega
    · rw [List.getElem?_append_left (by omega)]
      exact cellsF_at hf g (by omega) hj
theorem cellsF_congr {f : Vw → List Value} {g g' : Nat → Vw} : ∀ {n : Nat}, (∀ k, k < n → g k = g' k) → cellsF f g n = cellsF f g' n
  | 0, _ => rfl
  | n + 1, h => by
    show cellsF f g n ++ f (g n) = cellsF f g' n ++ f (g' n)
    rw [cellsF_congr (n := n) fun k hk => h k (by omega), h n (by omega)]
theorem vf_own {f : Vw → List Value} (hf : ∀ v, (f v).length = 3) {w : World} {base : Nat} {t : TypeId} {ao : Option Addr} {n c : Nat} {g : Nat → Vw} (h : w.ownsRow base t 3 (.slice ao n c) n (cellsF f g n)) (hi : ∀ k, k < n → IRow w w.heap.size (g k).ao (g k).xs) : VF f w w.heap.size ao n g :=
  ⟨fun hp => by
    obtain ⟨_, ⟨he, hn⟩ | ⟨g0, cap, cur, he, _, _, _⟩⟩ := id h
    · omega
    · injection he with h1 h2 h3
      subst h1
      refine ⟨g0, 0, rfl, (h.lt g0 rfl).2, fun k hk j v hv => ?_⟩
      have hj : j < 3 := by have h3 := (List.getElem?_eq_some_iff.1 hv).1; rwa [hf] at h3
      have h2 := h.cellAt (k * 3 + j) (by omega)
      rw [show 0 + k * 3 + j = k * 3 + j by omega, h2, cellsF_at hf g hk hj, hv], hi⟩
theorem vC_ones (v : Vw) : ∀ u ∈ vC v, u.oneCell' = true := by
  intro u hu
  simp [vC] at hu
  rcases hu with rfl | rfl | rfl <;> rfl
theorem rC_ones (v : Vw) : ∀ u ∈ rC v, u.oneCell' = true := by
  intro u hu
  simp [rC] at hu
  rcases hu with rfl | rfl | rfl <;> rfl
end Go.Proofs.Ytabkjjbhnapgpaa
