/- Contracts of NewTable, in the model and in the program; over this seat's translation. -/
import Derived.Test.YtnnfeblcgnaokaaNu
import Derived.Deep.AppendLies
import Derived.OwnWalk
namespace Go.Proofs.Ytnnfeblcgnaokaa
open Go.RowKit Go.Deep Go.ChangeShapes Go.WideShapes Go.ChangeAt

/-- What is appended: m entries of one cell each. -/
def Src1 (w : World) (A : Option Addr) (news : List Value) : Prop := (A = none → news.length = 0) ∧ ∀ ad, A = some ad → ∀ j u, news[j]? = some u → w.cell? (ad.add j) = some u
theorem src_one (W : World) (v : Value) (t : TypeId) : Src1 (W.alloc (.cells #[v] t)) (some ⟨W.heap.size, 0, none⟩) [v] := by
  refine ⟨(fun h => by cases h), fun ad e j u hu => ?_⟩
  injection e with e
  subst e
  exact new_cell j u hu
theorem run_append_src {P : Program} {t ty e : TypeId} {i0 : TypeInfo} {z : Value} {bytes : Nat} (ht : P.underlying t = some (.slice e)) (hi : P.info? e = some i0) (hz : i0.zero = some z) (hs0 : i0.size = 1) (hby : i0.bytes = bytes) (hzs : z.cells.size = 1)
    (w : World) (base : Nat) (v : Value) (n : Nat) (xs : List Value) (hown : w.ownsRow base e 1 v n xs) (A : Option Addr) (m c : Nat) (news : List Value) (hl : news.length = m) (hs : Src1 w A news)
    (h1 : ∀ u ∈ news, u.oneCell' = true) (hb : n + m ≤ maxLen) (hb2 : (n + m) * bytes ≤ 140737488355328) (hbase : base ≤ w.heap.size) :
    ∃ v' w', (Builtin.append_ #[t, t] ty #[v, .slice A m c]).run P w = .ok v' w' ∧ w'.ownsRow base e 1 v' (n + m) (xs ++ news) ∧ w.grownBy w' v.ownBlock ∧ (v'.ownBlock = v.ownBlock ∨ v'.ownBlock = some w.heap.size) := by
  cases A with
  | none =>
    have h0 := hs.1 rfl
    obtain rfl : m = 0 := by omega
    obtain rfl : news = [] := List.eq_nil_of_length_eq_zero h0
    refine ⟨v, w, ?_, by simpa using hown, World.grownBy.refl _ _, .inl rfl⟩
    rcases hown.2 with ⟨rfl, rfl⟩ | ⟨g, cap, cur, rfl, _, _, hnc, _⟩
    · simp [Builtin.append_, run_underlying ht, Go.sizeOf, typeInfo, hi, Builtin.lenOf, Builtin.firstCells]
    · simp [Builtin.append_, run_underlying ht, Go.sizeOf, typeInfo, hi, Builtin.lenOf, Builtin.firstCells, hnc, storeCells]
  | some ad =>
    obtain ⟨v', w', hr, h2, h3, _, h5⟩ := run_append_own_at (P := P) w base t ty e i0 z 1 bytes ht hi hz hs0 hby hzs (by decide) v n xs hown ad m c news (by omega) (hs.2 ad rfl) h1 hb hb2 hbase
    exact ⟨v', w', hr, h2, h3, h5⟩
theorem step_append_src {P : Program} {t e : TypeId} {i0 : TypeInfo} {z : Value} {bytes : Nat} {ops : Array Oper} {o : Oper} {a : Act} (w : World) {K : Act → World → Prop} {Q : Exit → Act → World → Prop} {E : Prop} (hgd : o.guard = none) (sl x : Operand) (ho : o.op = .call { callee := .builtin .append, args := #[sl, x], argTypes := #[t, t] })
    (ht : P.underlying t = some (.slice e)) (hi : P.info? e = some i0) (hz : i0.zero = some z) (hs0 : i0.size = 1) (hby : i0.bytes = bytes) (hzs : z.cells.size = 1)
    (base : Nat) (v : Value) (n : Nat) (xs : List Value) (hv : a.eval sl = v) (hown : w.ownsRow base e 1 v n xs) (A : Option Addr) (m c : Nat) (news : List Value) (hx : a.eval x = .slice A m c) (hl : news.length = m) (hs : Src1 w A news)
    (h1 : ∀ u ∈ news, u.oneCell' = true) (hb : n + m ≤ maxLen) (hb2 : (n + m) * bytes ≤ 140737488355328) (hbase : base ≤ w.heap.size)
    (h : ∀ v' w', w'.ownsRow base e 1 v' (n + m) (xs ++ news) → w.grownBy w' v.ownBlock → (v'.ownBlock = v.ownBlock ∨ v'.ownBlock = some w.heap.size) → K (a.put o.dst v') w') :
    if Region.wanted o (yielded ops a.tmps) = true then Oper.wp P o a w K Q else E := by
  have hw : Region.wanted o (yielded ops a.tmps) = true := by simp [Region.wanted, hgd]
  rw [if_pos hw]
  obtain ⟨v', w', hr, h2, h3, h4⟩ := run_append_src (ty := o.type) ht hi hz hs0 hby hzs w base v n xs hown A m c news hl hs h1 hb hb2 hbase
  unfold Oper.wp execOp
  simp only [ho, resolve, invoke, builtin, Sem.run_bind, Sem.run_pure, Result.andThen_ok, List.map_toArray, List.map_cons, List.map_nil, hv, hx, hr]
  exact h v' w' h2 h3 h4

theorem Try.infoN : (Try.prog.info? 54).map (fun i => (i.zero, i.size, i.bytes)) = some (some (.slice none 0 0), 1, 24) := by kernel_rfl
abbrev nils (n : Nat) : List Value := List.replicate n (.slice none 0 0)
abbrev NOwn (w : World) (B : Nat) (v : Value) (n : Nat) : Prop := w.ownsRow B 54 1 v n (nils n)
theorem nils_succ (n : Nat) : nils n ++ [.slice none 0 0] = nils (n + 1) := by
  rw [← List.replicate_succ']
theorem Sb.far {w w' : World} {S : Nat} {row : Option Nat} (h : Sb w S) (hl : S < w.heap.size) (hg : w.grownBy w' row) (hr : row ≠ some S) : Sb w' S := by
  intro k hk
  obtain ⟨⟨x, c0⟩, ⟨y, c2⟩, ⟨z, c3⟩, c4, c46, hz⟩ := h k hk
  have e : some S ≠ row := fun e => hr e.symm
  exact ⟨⟨x, hg.cell c0 e⟩, ⟨y, hg.cell c2 e⟩, ⟨z, hg.cell c3 e⟩, hg.cell c4 e, hg.cell c46 e, (hg.frozen_far ⟨S, k * 47 + 4, none⟩ hl e).trans hz⟩

set_option maxHeartbeats 4000000 in
set_option maxRecDepth 100000 in
theorem newM (n : Nat) (hn : n ≤ 4) (hm : many n = true) (w : World) :
    Calls Try.prog 4 #[.int .i64 n] w fun e w' => (∃ ao c, e = .returned (.tuple #[.agg #[.int .i64 n, .slice ao n c, .int .i64 0], .bool true]) ∧ NR w' ao n) ∧ Below w.heap.size w w' := by
  obtain ⟨i0, hi, hz0, hz1, hz2⟩ := info_parts Try.infoN
  have HM := Lib.hid (manyM n)
  rw [hm] at HM
  clear hm
  have HZ := Lib.hid (Tt.new w (.int .i64 0) (.slice none 0 0) (.int .i64 0) 24)
  have HB := Lib.hid ((Below.refl w.heap.size w).alloc (Nat.le_refl _) (.cells #[.int .i64 0, .slice none 0 0, .int .i64 0] 24))
  go_enter Try.func4, Try.ntmps4
  go_wp2_with fail
  refine (HM.out _).mono ?_
  rintro e w1 ⟨rfl, rfl⟩
  go_wp2_with (refine wpList_make_full _ rfl (.tmp 9) (.tmp 9) 22 rfl (w.heap.size + 1) 54 i0 _ 1 Try.underlying22 hi hz0 hz1 _ _ _ _ n rfl rfl rfl rfl (by rw [hz2]; omega) (by unfold maxLen; omega) (by simp) ?_; intro w1 hown1 hg1; rw [made_nil] at hown1; have HO := Lib.hid hown1; have HZ1 := Lib.hid (HZ.out.apart hg1 (by simp)); have HB1 := Lib.hid (HB.out.grown hg1 HB.out.size (fun _ h => by cases h)); clear hown1 hg1; obtain ⟨z0, z1, z2, f0, f1, f2⟩ := HZ1.out.cells)
  refine bodyPost_ret (v := .tuple #[.agg #[.int .i64 n, .slice (some ⟨w.heap.size + 1, 0, none⟩) n n, .int .i64 0], .bool true]) (by simp [results, Try.results4, go_sem, z0, z1, z2]) rfl ⟨⟨_, _, rfl, ?_⟩, ?_⟩
  · obtain ⟨ao, c, e, hN⟩ := NR.of_own (own_other (B := w.heap.size) (own_other (B := w.heap.size) (own_other (B := w.heap.size) HO.out (by omega) (gb_set _ _ 0 (.int .i64 n))) (by omega) (gb_set _ _ 1 (.slice (some ⟨w.heap.size + 1, 0, none⟩) n n))) (by omega) (gb_set _ _ 2 (.int .i64 0)))
    injection e with e1 e2 e3
    subst e1
    simp only [World.size_alloc] at hN
    exact hN
  · exact ((HB1.out.setCell (Nat.le_refl _) _).setCell (Nat.le_refl _) _).setCell (Nat.le_refl _) _
set_option maxHeartbeats 4000000 in
theorem newM_no (n : Int) (hm : many n = false) (w : World) :
    Calls Try.prog 4 #[.int .i64 n] w fun e w' => e = .returned (.tuple #[.agg #[.int .i64 0, .slice none 0 0, .int .i64 0], .bool false]) ∧ Below w.heap.size w w' := by
  have HM := Lib.hid (manyM n)
  rw [hm] at HM
  clear hm
  have HX := Lib.hid (Tt.new w (.int .i64 0) (.slice none 0 0) (.int .i64 0) 24)
  have HB := Lib.hid ((Below.refl w.heap.size w).alloc (Nat.le_refl _) (.cells #[.int .i64 0, .slice none 0 0, .int .i64 0] 24))
  go_enter Try.func4, Try.ntmps4
  go_wp2_with fail
  refine (HM.out _).mono ?_
  rintro e w1 ⟨rfl, rfl⟩
  obtain ⟨x0, x1, x2, f0, f1, f2⟩ := HX.out.cells
  go_wp2
  exact bodyPost_ret (v := .tuple #[.agg #[.int .i64 0, .slice none 0 0, .int .i64 0], .bool false]) (by simp [results, Try.results4, go_sem, x0, x1, x2]) rfl ⟨rfl, HB.out⟩
end Go.Proofs.Ytnnfeblcgnaokaa
