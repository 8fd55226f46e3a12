/- Rows that others' writing leaves alone, appending in a region that draws its order, and what a call that answers a series comes to. -/
import Derived.Test.YteiefngamccapaaMc
namespace Go.Proofs.Yteiefngamccapaa
open Go.RowKit Go.Deep

theorem chunk_block {w : World} {base n : Nat} {v : Value} {xs : List Value} (h : w.ownsRow base 85 4 v n xs) : ∀ k, v.ownBlock = some k → base ≤ k := fun k hk => (h.lt k hk).1
theorem own_apart {w w' : World} {base : Nat} {e : TypeId} {s n : Nat} {v : Value} {xs : List Value} {row : Option Nat} (h : w.ownsRow base e s v n xs) (hg : w.grownBy w' row) (hr : ∀ k, row = some k → k < base) : w'.ownsRow base e s v n xs := by
  refine h.kept hg ?_
  cases hv : v.ownBlock with
  | none => exact .inl rfl
  | some k => exact .inr (fun e => by have := (h.lt k hv).1; have := hr k e.symm; omega)
theorem Bt.apart {w w' : World} {g : Nat} {a b : Value} {row : Option Nat} (h : Bt w g a b) (hg : w.grownBy w' row) (hr : row ≠ some g) : Bt w' g a b := by
  obtain ⟨t, h⟩ := h
  exact ⟨t, (hg.block g (Array.getElem?_eq_some_iff.1 h).1 (fun e => hr e.symm)).trans h⟩
theorem own_empty0 {W : World} {base h s : Nat} {t : TypeId} (hh : W.heap[h]? = some (.cells #[] t)) (hb : base ≤ h) : W.ownsRow base t s (.slice (some ⟨h, 0, none⟩) 0 0) 0 [] :=
  ⟨by simp, .inr ⟨h, 0, #[], rfl, hb, hh, Nat.le_refl _, by unfold maxLen; omega, by simp, by simp⟩⟩

/-- 'append' onto a row of the call's own, whatever slice is appended, and which block it then lies in. -/
theorem run_append_more {P : Program} {t ty e : TypeId} {i0 : TypeInfo} {z : Value} {s bytes : Nat} (ht : P.underlying t = some (.slice e)) (hi : P.info? e = some i0) (hz : i0.zero = some z) (hs0 : i0.size = s) (hby : i0.bytes = bytes) (hzs : z.cells.size = s) (hsp : 0 < s)
    (w : World) (base : Nat) (v : Value) (n : Nat) (xs : List Value) (hown : w.ownsRow base e s v n xs) (A : Option Addr) (m c : Nat) (news : List Value) (hs : SrcA s w A m news)
    (h1 : ∀ u ∈ news, u.oneCell' = true) (hb : n + m ≤ maxLen) (hb2 : (n + m) * bytes ≤ 140737488355328) (hbase : base ≤ w.heap.size) :
    ∃ v' w', (Builtin.append_ #[t, t] ty #[v, .slice A m c]).run P w = .ok v' w' ∧ w'.ownsRow base e s v' (n + m) (xs ++ news) ∧ w.grownBy w' v.ownBlock ∧ (v'.ownBlock = v.ownBlock ∨ v'.ownBlock = some w.heap.size) := by
  cases A with
  | none =>
    obtain rfl := hs.2.1 rfl
    obtain rfl : news = [] := List.eq_nil_of_length_eq_zero (by simpa using hs.1)
    refine ⟨v, w, ?_, by simpa using hown, World.grownBy.refl _ _, .inl rfl⟩
    rcases hown.2 with ⟨rfl, rfl⟩ | ⟨g, cap, cur, rfl, _, _, hnc, _⟩
    · simp [Builtin.append_, run_underlying ht, Go.sizeOf, typeInfo, hi, Builtin.lenOf, Builtin.firstCells]
    · simp [Builtin.append_, run_underlying ht, Go.sizeOf, typeInfo, hi, Builtin.lenOf, Builtin.firstCells, hnc, storeCells]
  | some ad =>
    obtain ⟨v', w', hr, h2, h3, _, h5⟩ := run_append_own_at (P := P) w base t ty e i0 z s bytes ht hi hz hs0 hby hzs hsp v n xs hown ad m c news hs.1 (hs.2.2 ad rfl) h1 hb hb2 hbase
    exact ⟨v', w', hr, h2, h3, h5⟩
theorem wpList_append_more {P : Program} {t e : TypeId} {i0 : TypeInfo} {z : Value} {s bytes : Nat} {ops : Array Oper} {rest : List Oper} {o : Oper} {a : Act} (w : World) {Q : Exit → Act → World → Prop} (hgd : o.guard = none) (sl x : Operand) (ho : o.op = .call { callee := .builtin .append, args := #[sl, x], argTypes := #[t, t] })
    (ht : P.underlying t = some (.slice e)) (hi : P.info? e = some i0) (hz : i0.zero = some z) (hs0 : i0.size = s) (hby : i0.bytes = bytes) (hzs : z.cells.size = s) (hsp : 0 < s)
    (base : Nat) (v : Value) (n : Nat) (xs : List Value) (hv : a.eval sl = v) (hown : w.ownsRow base e s v n xs) (A : Option Addr) (m c : Nat) (news : List Value) (hx : a.eval x = .slice A m c) (hs : SrcA s w A m news)
    (h1 : ∀ u ∈ news, u.oneCell' = true) (hb : n + m ≤ maxLen) (hb2 : (n + m) * bytes ≤ 140737488355328) (hbase : base ≤ w.heap.size)
    (h : ∀ v' w', w'.ownsRow base e s v' (n + m) (xs ++ news) → w.grownBy w' v.ownBlock → (v'.ownBlock = v.ownBlock ∨ v'.ownBlock = some w.heap.size) → wpList P ops Q rest (a.put o.dst v') w') : wpList P ops Q (o :: rest) a w := by
  refine wpList_plain hgd fun K hK => ?_
  obtain ⟨v', w', hr, h2, h3, h4⟩ := run_append_more (ty := o.type) ht hi hz hs0 hby hzs hsp w base v n xs hown A m c news hs h1 hb hb2 hbase
  unfold Oper.wp execOp
  simp only [ho, resolve, invoke, builtin, Sem.run_bind, Sem.run_pure, Result.andThen_ok, List.map_toArray, List.map_cons, List.map_nil, hv, hx, hr]
  exact hK _ _ (h v' w' h2 h3 h4)
theorem step_append_any {P : Program} {t e : TypeId} {i0 : TypeInfo} {z : Value} {s bytes : Nat} {ops : Array Oper} {o : Oper} {a : Act} (w : World) {K : Act → World → Prop} {Q : Exit → Act → World → Prop} {E : Prop} (hgd : o.guard = none) (sl x : Operand) (ho : o.op = .call { callee := .builtin .append, args := #[sl, x], argTypes := #[t, t] })
    (ht : P.underlying t = some (.slice e)) (hi : P.info? e = some i0) (hz : i0.zero = some z) (hs0 : i0.size = s) (hby : i0.bytes = bytes) (hzs : z.cells.size = s) (hsp : 0 < s)
    (base : Nat) (v : Value) (n : Nat) (xs : List Value) (hv : a.eval sl = v) (hown : w.ownsRow base e s v n xs) (A : Option Addr) (m c : Nat) (news : List Value) (hx : a.eval x = .slice A m c) (hs : SrcA s w A m news)
    (h1 : ∀ u ∈ news, u.oneCell' = true) (hb : n + m ≤ maxLen) (hb2 : (n + m) * bytes ≤ 140737488355328) (hbase : base ≤ w.heap.size)
    (h : ∀ v' w', w'.ownsRow base e s v' (n + m) (xs ++ news) → w.grownBy w' v.ownBlock → (v'.ownBlock = v.ownBlock ∨ v'.ownBlock = some w.heap.size) → K (a.put o.dst v') w') :
    if Region.wanted o (yielded ops a.tmps) = true then Oper.wp P o a w K Q else E := by
  have hw : Region.wanted o (yielded ops a.tmps) = true := by simp [Region.wanted, hgd]
  rw [if_pos hw]
  obtain ⟨v', w', hr, h2, h3, h4⟩ := run_append_more (ty := o.type) ht hi hz hs0 hby hzs hsp w base v n xs hown A m c news hs h1 hb hb2 hbase
  unfold Oper.wp execOp
  simp only [ho, resolve, invoke, builtin, Sem.run_bind, Sem.run_pure, Result.andThen_ok, List.map_toArray, List.map_cons, List.map_nil, hv, hx, hr]
  exact h v' w' h2 h3 h4
/-- A new block of one entry of four cells, as what is appended. -/
theorem src_four (W : World) (a b c d : Value) (t : TypeId) : SrcA 4 (W.alloc (.cells #[a, b, c, d] t)) (some ⟨W.heap.size, 0, none⟩) 1 [a, b, c, d] := by
  refine ⟨rfl, (fun h => by cases h), fun ad e j u hu => ?_⟩
  injection e with e
  subst e
  match j, hu with
  | 0, hu => simp at hu; subst hu; simp [Addr.add]
  | 1, hu => simp at hu; subst hu; simp [Addr.add]
  | 2, hu => simp at hu; subst hu; simp [Addr.add]
  | 3, hu => simp at hu; subst hu; simp [Addr.add]
theorem cC_ones (c : Chk) : ∀ u ∈ cC c, u.oneCell' = true := by
  intro u hu
  simp [cC] at hu
  rcases hu with rfl | rfl | rfl | rfl <;> rfl
theorem cellsG_snoc (l : List Chk) (c : Chk) : cellsG cC (l ++ [c]) = cellsG cC l ++ cC c := by simp [cellsG]
/-- Writing into a block that is none of a row's. -/
theorem own_put {w : World} {base g i : Nat} {e : TypeId} {s n : Nat} {v u : Value} {xs : List Value} (h : w.ownsRow base e s v n xs) (hg : v.ownBlock ≠ some g) : (w.setCell ⟨g, i, none⟩ u).ownsRow base e s v n xs :=
  h.kept (gb_set w g i u) (.inr hg)

/-- A series and a bool are answered. -/
def SeEnd (cs : List Chk) (f : Int) (b : Bool) (w : World) (e : Ending) (w' : World) : Prop :=
  (∃ (ao : Option Addr) (cp : Nat), e = .returned (.tuple #[.agg #[.slice ao cs.length cp, .int .i64 f], .bool b]) ∧ w'.ownsRow w.heap.size 85 4 (.slice ao cs.length cp) cs.length (cellsG cC cs)) ∧ Below w.heap.size w w'
theorem se_none {w w' : World} (h : Below w.heap.size w w') : SeEnd [] 0 false w (.returned (.tuple #[.agg #[.slice none 0 0, .int .i64 0], .bool false])) w' :=
  ⟨⟨none, 0, rfl, World.ownsRow_nil _ _ _ _⟩, h⟩
theorem se_some {w w' : World} {cs : List Chk} {f : Int} {v : Value} (ho : w'.ownsRow w.heap.size 85 4 v cs.length (cellsG cC cs)) (h : Below w.heap.size w w') : SeEnd cs f true w (.returned (.tuple #[.agg #[v, .int .i64 f], .bool true])) w' := by
  obtain ⟨ao, c, rfl⟩ := own_slice ho
  exact ⟨⟨ao, c, rfl, ho⟩, h⟩


set_option maxHeartbeats 4000000 in
set_option maxRecDepth 100000 in
theorem own59 (ao : Option Addr) (cap : Nat) (l : List Chk) (fl : Int) (hn : l.length ≤ 1048576) (w : World) (h : CRow w w.heap.size ao l) :
    Calls Try.prog 59 #[.agg #[.slice ao l.length cap, .int .i64 fl]] w (MadeS w.heap.size l fl w) := by
  have HB0 := Lib.hid (((Below.refl w.heap.size w).alloc (Nat.le_refl _) (.cells #[.slice ao l.length cap, .int .i64 fl] 29)).alloc (by simp) (.cells #[.slice none 0 0, .int .i64 0] 29))
  have HX0 := Lib.hid ((Bt.new w (.slice ao l.length cap) (.int .i64 fl) 29).alloc (.cells #[.slice none 0 0, .int .i64 0] 29))
  have HZ0 := Lib.hid (Bt.new (w.alloc (.cells #[.slice ao l.length cap, .int .i64 fl] 29)) (.slice none 0 0) (.int .i64 0) 29)
  rw [World.size_alloc] at HZ0
  have HR0 := Lib.hid (GR.after h HB0.out)
  obtain ⟨W0, hW0⟩ : ∃ W, W = (w.alloc (.cells #[.slice ao l.length cap, .int .i64 fl] 29)).alloc (.cells #[.slice none 0 0, .int .i64 0] 29) := ⟨_, rfl⟩
  rw [← hW0] at HB0 HX0 HZ0 HR0
  have hs0 : W0.heap.size = w.heap.size + 2 := by rw [hW0]; simp
  have HS0 := Lib.hid hs0
  obtain ⟨i0, hi, hz0, hz1, hz2⟩ := info_parts Try.infoC
  have HOw : Hid ((W0.alloc (.cells #[] 85)).drew.ownsRow W0.heap.size 85 4 (.slice (some ⟨W0.heap.size, 0, none⟩) 0 0) 0 []) := Lib.hid (own_empty0 (blk_alloc_new W0 _) (Nat.le_refl _))
  have HSr := Lib.hid (fun (W : World) (hb : Below W0.heap.size W0 W) => GR.srcA cC_len (GR.after HR0.out hb))
  clear h hs0
  go_enter Try.func59, Try.ntmps59
  go_wp2_with fail
  rw [← hW0]
  obtain ⟨x0, x1, _⟩ := HX0.out.cells
  obtain ⟨z0, z1, zf0, zf1⟩ := HZ0.out.cells
  clear hW0
  have hb0 := ((Below.refl W0.heap.size W0).alloc (Nat.le_refl _) (.cells #[] 85)).drew
  go_region_held3 (fun w' => w'.cell? ⟨w.heap.size, 0, none⟩ = some (.slice ao l.length cap) ∧ w'.cell? ⟨w.heap.size, 1, none⟩ = some (.int .i64 fl)) (first | exact ⟨by assumption, by assumption⟩ | exact ⟨(HX0.out.below hb0).cells.1, (HX0.out.below hb0).cells.2.1⟩ | go_keep) (first | (refine step_append_any _ rfl _ _ rfl Try.underlying27 hi hz0 hz1 hz2 rfl (by decide) W0.heap.size _ _ _ rfl HOw.out _ _ _ _ rfl (HSr.out _ hb0) cC_one (by unfold maxLen; omega) (by omega) hb0.size ?_; intro v' w2 hown' hgrow _; simp only [Nat.zero_add, List.nil_append] at hown'; obtain ⟨o', c', rfl⟩ := own_slice hown'; have hb2 := own_grown hb0 HOw.out hgrow (Nat.le_refl _); clear hgrow; obtain ⟨u0, u1, _⟩ := (HX0.out.below hb2).cells; obtain ⟨t0, t1, tf0, tf1⟩ := (HZ0.out.below hb2).cells))
  all_goals
    have HO2 := Lib.hid hown'
    have HB2 := Lib.hid (HB0.out.trans (hb2.mono HB0.out.size))
    clear hown' hb2 hb0
    go_wp2_with fail
    refine bodyPost_ret (v := .agg #[.slice o' l.length c', .int .i64 fl]) (by simp [results, Try.results59, go_sem, t0, t1]) rfl ⟨_, rfl, ?_, ?_⟩
    · exact own_lower (own_set (own_set HO2.out (by have := HS0.out; omega)) (by have := HS0.out; omega)) HB0.out.size
    · exact (HB2.out.setCell (by dsimp only; omega) _).setCell (by dsimp only; omega) _
end Go.Proofs.Yteiefngamccapaa
