/- Plain mathematics of putting one label among sorted ones, and how such a list is appended piece by piece. -/
import Derived.Test.YtpbcgfgjdimpmaaDoorCode
import Derived.Maps.AppendAt
namespace Go.Proofs.YtpbcgfgjdimpmaaDoor
open Go.RowKit Go.Deep

theorem strict_insert {R : List Lab} {x : Lab} {j : Nat} (hs : strict R) (h1 : ∀ i (hi : i < R.length), i < j → less R[i].1 x.1 = true) (h2 : ∀ i (hi : i < R.length), j ≤ i → less x.1 R[i].1 = true) : strict (R.take j ++ x :: R.drop j) := by
  have hidx := (strict_iff R).1 hs
  have ht : ∀ a ∈ R.take j, ∃ i, ∃ hi : i < R.length, i < j ∧ R[i] = a := by
    intro a ha
    obtain ⟨i, hi, rfl⟩ := List.getElem_of_mem ha
    simp at hi
    exact ⟨i, by omega, by omega, by simp⟩
  have hd : ∀ b ∈ R.drop j, ∃ i, ∃ hi : i < R.length, j ≤ i ∧ R[i] = b := by
    intro b hb
    obtain ⟨i, hi, rfl⟩ := List.getElem_of_mem hb
    simp at hi
    exact ⟨j + i, by omega, by omega, by simp⟩
  unfold strict
  rw [List.pairwise_append, List.pairwise_cons]
  refine ⟨hs.sublist (List.take_sublist _ _), ⟨?_, hs.sublist (List.drop_sublist _ _)⟩, ?_⟩
  · intro b hb
    obtain ⟨i, hi, hj, rfl⟩ := hd b hb
    exact h2 i hi hj
  · intro a ha b hb
    obtain ⟨i, hi, hij, rfl⟩ := ht a ha
    rcases List.mem_cons.1 hb with rfl | hb
    · exact h1 i hi hij
    · obtain ⟨i', hi', hj', rfl⟩ := hd b hb
      exact hidx i i' hi hi' (by omega)
theorem perm_insert (R : List Lab) (x : Lab) (j : Nat) : (R.take j ++ x :: R.drop j).Perm (R ++ [x]) := by
  refine List.perm_middle.trans ?_
  rw [List.take_append_drop]
  exact (List.perm_append_singleton x R).symm
theorem cellsOf_take (R : List Lab) (j : Nat) : cellsOf (R.take j) = (cellsOf R).take (j * 2) := by
  induction R generalizing j with
  | nil => simp [cellsOf]
  | cons x R ih =>
    cases j with
    | zero => simp [cellsOf]
    | succ j =>
      have := ih j
      rw [List.take_succ_cons, show (j + 1) * 2 = j * 2 + 1 + 1 by omega]
      simp only [cellsOf, List.flatMap_cons] at this ⊢
      simp only [List.cons_append, List.nil_append, List.take_succ_cons, this]
theorem cellsOf_drop (R : List Lab) (j : Nat) : cellsOf (R.drop j) = (cellsOf R).drop (j * 2) := by
  induction R generalizing j with
  | nil => simp [cellsOf]
  | cons x R ih =>
    cases j with
    | zero => simp [cellsOf]
    | succ j =>
      have := ih j
      rw [List.drop_succ_cons, show (j + 1) * 2 = j * 2 + 1 + 1 by omega]
      simp only [cellsOf, List.flatMap_cons] at this ⊢
      simp only [List.cons_append, List.nil_append, List.drop_succ_cons, this]

/-- What is appended: m labels' cells at some address, or none. -/
def Src (w : World) (A : Option Addr) (m : Nat) (news : List Value) : Prop := news.length = m * 2 ∧ ∀ ad, A = some ad → ∀ j u, news[j]? = some u → w.cell? (ad.add j) = some u
theorem src_len {w : World} {A : Option Addr} {m : Nat} {news : List Value} (h : Src w A m news) : news.length = m * 2 := h.1

/-- 'append' onto a row of the call's own, whatever slice of labels is appended. -/
theorem run_append_src (w : World) (base : Nat) (v : Value) (n : Nat) (xs : List Value) (hown : w.ownsRow base 82 2 v n xs) (A : Option Addr) (m c : Nat) (news : List Value) (hs : Src w A m news) (hA : A = none → m = 0)
    (h1 : ∀ u ∈ news, u.oneCell' = true) (hb : n + m ≤ 1048576) (hbase : base ≤ w.heap.size) :
    ∃ v' w', (Builtin.append_ #[24, 24] 24 #[v, .slice A m c]).run Tryd.prog w = .ok v' w' ∧ w'.ownsRow base 82 2 v' (n + m) (xs ++ news) ∧ w.grownBy w' v.ownBlock ∧ (v'.ownBlock = v.ownBlock ∨ v'.ownBlock = some w.heap.size) := by
  obtain ⟨i0, hi0, hz0, hz1, hz2⟩ := info_parts Tryd.info82
  cases A with
  | none =>
    obtain rfl := hA rfl
    obtain rfl : news = [] := List.eq_nil_of_length_eq_zero (by simpa using hs.1)
    refine ⟨v, w, ?_, by simpa using hown, World.grownBy.refl _ _, .inl rfl⟩
    rcases hown.2 with ⟨rfl, rfl⟩ | ⟨g, cap, cur, rfl, _, _, hnc, _⟩
    · simp [Builtin.append_, run_underlying Tryd.underlying24, Go.sizeOf, typeInfo, hi0, Builtin.lenOf, Builtin.firstCells]
    · simp [Builtin.append_, run_underlying Tryd.underlying24, Go.sizeOf, typeInfo, hi0, Builtin.lenOf, Builtin.firstCells, hnc, storeCells]
  | some ad =>
    obtain ⟨v', w', hr, h2, h3, _, h5⟩ := run_append_own_at (P := Tryd.prog) w base 24 24 82 i0 _ 2 32 Tryd.underlying24 hi0 hz0 hz1 hz2 rfl (by omega) v n xs hown ad m c news hs.1 (hs.2 ad rfl) h1 (by unfold maxLen; omega) (by omega) hbase
    exact ⟨v', w', hr, h2, h3, h5⟩

theorem wp_append_src {o : Oper} {a : Act} (w : World) {K : Act → World → Prop} {Q : Exit → Act → World → Prop} (s x : Operand) (ho : o.op = .call { callee := .builtin .append, args := #[s, x], argTypes := #[24, 24] }) (hty : o.type = 24)
    (base : Nat) (v : Value) (n : Nat) (xs : List Value) (hv : a.eval s = v) (hown : w.ownsRow base 82 2 v n xs) (A : Option Addr) (m c : Nat) (news : List Value) (hx : a.eval x = .slice A m c) (hs : Src w A m news) (hA : A = none → m = 0)
    (h1 : ∀ u ∈ news, u.oneCell' = true) (hb : n + m ≤ 1048576) (hbase : base ≤ w.heap.size)
    (h : ∀ v' w', w'.ownsRow base 82 2 v' (n + m) (xs ++ news) → w.grownBy w' v.ownBlock → (v'.ownBlock = v.ownBlock ∨ v'.ownBlock = some w.heap.size) → K (a.put o.dst v') w') : o.wp Tryd.prog a w K Q := by
  obtain ⟨v', w', hr, h2, h3, h4⟩ := run_append_src w base v n xs hown A m c news hs hA h1 hb hbase
  unfold Oper.wp execOp
  simp only [ho, hty, resolve, invoke, builtin, Sem.run_bind, Sem.run_pure, Result.andThen_ok, List.map_toArray, List.map_cons, List.map_nil, hv, hx, hr]
  exact h v' w' h2 h3 h4
theorem wpList_append_src {ops : Array Oper} {rest : List Oper} {o : Oper} {a : Act} (w : World) {Q : Exit → Act → World → Prop} (hgd : o.guard = none) (s x : Operand) (ho : o.op = .call { callee := .builtin .append, args := #[s, x], argTypes := #[24, 24] }) (hty : o.type = 24)
    (base : Nat) (v : Value) (n : Nat) (xs : List Value) (hv : a.eval s = v) (hown : w.ownsRow base 82 2 v n xs) (A : Option Addr) (m c : Nat) (news : List Value) (hx : a.eval x = .slice A m c) (hs : Src w A m news) (hA : A = none → m = 0)
    (h1 : ∀ u ∈ news, u.oneCell' = true) (hb : n + m ≤ 1048576) (hbase : base ≤ w.heap.size)
    (h : ∀ v' w', w'.ownsRow base 82 2 v' (n + m) (xs ++ news) → w.grownBy w' v.ownBlock → (v'.ownBlock = v.ownBlock ∨ v'.ownBlock = some w.heap.size) → wpList Tryd.prog ops Q rest (a.put o.dst v') w') : wpList Tryd.prog ops Q (o :: rest) a w :=
  wpList_plain hgd fun _ hK => wp_append_src w s x ho hty base v n xs hv hown A m c news hx hs hA h1 hb hbase fun v' w' h2 h3 h4 => hK _ _ (h v' w' h2 h3 h4)
theorem step_append_src {ops : Array Oper} {o : Oper} {a : Act} (w : World) {K : Act → World → Prop} {Q : Exit → Act → World → Prop} {E : Prop} (hgd : o.guard = none) (s x : Operand) (ho : o.op = .call { callee := .builtin .append, args := #[s, x], argTypes := #[24, 24] }) (hty : o.type = 24)
    (base : Nat) (v : Value) (n : Nat) (xs : List Value) (hv : a.eval s = v) (hown : w.ownsRow base 82 2 v n xs) (A : Option Addr) (m c : Nat) (news : List Value) (hx : a.eval x = .slice A m c) (hs : Src w A m news) (hA : A = none → m = 0)
    (h1 : ∀ u ∈ news, u.oneCell' = true) (hb : n + m ≤ 1048576) (hbase : base ≤ w.heap.size)
    (h : ∀ v' w', w'.ownsRow base 82 2 v' (n + m) (xs ++ news) → w.grownBy w' v.ownBlock → (v'.ownBlock = v.ownBlock ∨ v'.ownBlock = some w.heap.size) → K (a.put o.dst v') w') :
    if Region.wanted o (yielded ops a.tmps) = true then Oper.wp Tryd.prog o a w K Q else E := by
  have hw : Region.wanted o (yielded ops a.tmps) = true := by simp [Region.wanted, hgd]
  rw [if_pos hw]
  exact wp_append_src w s x ho hty base v n xs hv hown A m c news hx hs hA h1 hb hbase h

/-- Labels' cells that lie below a block. -/
def SrcB (w : World) (B : Nat) (A : Option Addr) (m : Nat) (news : List Value) : Prop := news.length = m * 2 ∧ ∀ ad, A = some ad → ∀ j u, news[j]? = some u → ad.block < B ∧ w.cell? (ad.add j) = some u
theorem block_add (a : Addr) (n : Nat) : (a.add n).block = a.block := by unfold Addr.add; split <;> rfl
theorem SrcB.to {w w' : World} {B : Nat} {A : Option Addr} {m : Nat} {news : List Value} (h : SrcB w B A m news) (hk : ∀ p : Addr, p.block < B → w'.cell? p = w.cell? p) : Src w' A m news :=
  ⟨h.1, fun ad e j u hu => by have := h.2 ad e j u hu; rw [hk _ (by rw [block_add]; exact this.1)]; exact this.2⟩
theorem SrcB.below {w w' : World} {B : Nat} {A : Option Addr} {m : Nat} {news : List Value} (h : SrcB w B A m news) (hb : Below B w w') : SrcB w' B A m news :=
  ⟨h.1, fun ad e j u hu => by have := h.2 ad e j u hu; exact ⟨this.1, (hb.cell (by rw [block_add]; exact this.1)).trans this.2⟩⟩
/-- The front of a row. -/
theorem src_front {w : World} {base n c : Nat} {va : Option Addr} {R : List Lab} (h : w.ownsRow base 82 2 (.slice va n c) n (cellsOf R)) (j : Nat) (hj : j ≤ R.length) : SrcB w w.heap.size va j (cellsOf (R.take j)) := by
  refine ⟨by rw [cellsOf_length]; simp; omega, fun ad e i u hu => ?_⟩
  subst e
  rcases h.2 with ⟨h', _⟩ | ⟨g, cap, cur, h', _, hg, _⟩
  · cases h'
  · simp only [Value.slice.injEq, Option.some.injEq] at h'
    obtain ⟨rfl, _, _⟩ := h'
    refine ⟨(Array.getElem?_eq_some_iff.1 hg).1, h.cells (g := g) rfl i u ?_⟩
    rw [cellsOf_take, List.getElem?_take] at hu
    split at hu
    · exact hu
    · cases hu
/-- The back of a row. -/
theorem src_back {w : World} {base n c g : Nat} {R : List Lab} (h : w.ownsRow base 82 2 (.slice (some ⟨g, 0, none⟩) n c) n (cellsOf R)) (j : Nat) (hj : j ≤ R.length) : SrcB w w.heap.size (some ⟨g, j * 2, none⟩) (n - j) (cellsOf (R.drop j)) := by
  have hn : n = R.length := by have := h.1; rw [cellsOf_length] at this; omega
  refine ⟨by rw [cellsOf_length]; simp; omega, fun ad e i u hu => ?_⟩
  injection e with e
  subst e
  rcases h.2 with ⟨h', _⟩ | ⟨g', cap, cur, h', _, hg, _⟩
  · cases h'
  · simp only [Value.slice.injEq, Option.some.injEq, Addr.mk.injEq, and_true, true_and] at h'
    obtain ⟨rfl, _⟩ := h'
    refine ⟨(Array.getElem?_eq_some_iff.1 hg).1, ?_⟩
    have := h.cells (g := g) rfl (j * 2 + i) u (by rw [← hu, cellsOf_drop, List.getElem?_drop])
    rw [Go.WideShapes.add_plain] at this ⊢
    rw [Nat.zero_add] at this
    exact this
theorem own_none {w : World} {base n c : Nat} {va : Option Addr} {xs : List Value} (h : w.ownsRow base 82 2 (.slice va n c) n xs) : va = none → n = 0 := by
  rintro rfl
  rcases h.2 with ⟨_, h'⟩ | ⟨g, cap, cur, h', _⟩
  · exact h'
  · cases h'
theorem own_emptyA {W : World} {base h : Nat} (hh : W.heap[h]? = some (.cells #[] 82 (0, 0))) (hb : base ≤ h) : W.ownsRow base 82 2 (.slice (some ⟨h, 0, none⟩) 0 0) 0 [] :=
  ⟨rfl, .inr ⟨h, 0, #[], rfl, hb, hh, Nat.le_refl _, by unfold maxLen; omega, rfl, rfl⟩⟩
end Go.Proofs.YtpbcgfgjdimpmaaDoor
