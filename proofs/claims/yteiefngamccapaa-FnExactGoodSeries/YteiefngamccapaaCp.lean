/- Copying samples, which take two cells each, in a walk; and the contract of the program's oneBehindOther, over this seat's translation. -/
import Derived.Test.YteiefngamccapaaCm
import Derived.Laws.CopyOwn
namespace Go.Proofs.Yteiefngamccapaa
open Go.RowKit Go.Deep

theorem run_copy2 {P : Program} (w : World) (dT sT ty elem : TypeId) (g o dLen dCap : Nat) (a : Addr) (sLen sCap : Nat) (cur : Array Value) (t : TypeId) (cs : List Value) (m : Nat)
    (hu : P.underlying dT = some (.slice elem)) (hs : (P.info? elem).map (·.size) = some 2) (hg : w.heap[g]? = some (.cells cur t (0, 0))) (hm : Nat.min sLen dLen = m) (hn : cs.length = m * 2)
    (hsrc : ∀ j v, cs[j]? = some v → w.cell? (a.add j) = some v) (hfit : o + cs.length ≤ cur.size) (h1 : ∀ v ∈ cs, v.oneCell' = true) :
    (Builtin.copy_ #[dT, sT] ty #[.slice (some ⟨g, o, none⟩) dLen dCap, .slice (some a) sLen sCap]).run P w = .ok (goInt m) (w.setRow g (splice cur.toList o cs).toArray) := by
  have hl := run_loadCells_list (P := P) w a cs hsrc
  have hst := run_storeCells_at P g o t cs 0 cur w hg (by simpa using hfit) h1
  obtain ⟨i, hq, hi⟩ : ∃ i, P.info? elem = some i ∧ i.size = 2 := by cases hq : P.info? elem <;> simp_all
  rw [hn] at hl
  simp [Builtin.copy_, run_underlying hu, Builtin.lenOf, Builtin.firstCells, sizeOf, typeInfo, hq, hi, hm, hl, hst, splice]
theorem run_copy2_none {P : Program} (w : World) (dT sT ty elem : TypeId) (d a : Option Addr) (dLen dCap sLen sCap : Nat) (hu : P.underlying dT = some (.slice elem)) (hs : (P.info? elem).map (·.size) = some 2) (hm : Nat.min sLen dLen = 0) :
    (Builtin.copy_ #[dT, sT] ty #[.slice d dLen dCap, .slice a sLen sCap]).run P w = .ok (goInt 0) w := by
  obtain ⟨i, hq, hi⟩ : ∃ i, P.info? elem = some i ∧ i.size = 2 := by cases hq : P.info? elem <;> simp_all
  have hl : ∀ x : Addr, (loadCells x 0).run P w = .ok #[] w := fun x => by simpa using run_loadCells_list (P := P) w x [] (by simp)
  cases d <;> cases a <;> simp [Builtin.copy_, run_underlying hu, Builtin.lenOf, Builtin.firstCells, sizeOf, typeInfo, hq, hm, storeCells, hl]
theorem wp_copy2 {P : Program} {w : World} {ops : Array Oper} {rest : List Oper} {o : Oper} {a : Act} {Q : Exit → Act → World → Prop} (hgd : o.guard = none) (d s : Operand) (dT sT : TypeId)
    (ho : o.op = .call { callee := .builtin .copy, args := #[d, s], argTypes := #[dT, sT] }) (elem : TypeId) (hu : P.underlying dT = some (.slice elem)) (hsz : (P.info? elem).map (·.size) = some 2)
    (dp sp : Option Addr) (dLen dCap sLen sCap : Nat) (hd : a.eval d = .slice dp dLen dCap) (hs : a.eval s = .slice sp sLen sCap) (m : Nat) (hm : Nat.min sLen dLen = m)
    (g off : Nat) (cur : List Value) (t : TypeId) (hg : w.heap[g]? = some (.cells cur.toArray t (0, 0))) (cs : List Value) (hn : cs.length = m * 2)
    (hpos : 0 < m → dp = some ⟨g, off, none⟩ ∧ ∃ ad, sp = some ad ∧ ∀ j v, cs[j]? = some v → w.cell? (ad.add j) = some v) (hfit : off + cs.length ≤ cur.length) (h1 : ∀ v ∈ cs, v.oneCell' = true)
    (h : ∀ w', w'.heap[g]? = some (.cells (splice cur off cs).toArray t (0, 0)) → (∀ B w0, Below B w0 w → B ≤ g → Below B w0 w') → wpList P ops Q rest (a.put o.dst (goInt m)) w') :
    wpList P ops Q (o :: rest) a w := by
  have key : ∃ w', (Builtin.copy_ #[dT, sT] o.type #[.slice dp dLen dCap, .slice sp sLen sCap]).run P w = .ok (goInt m) w' ∧ w'.heap[g]? = some (.cells (splice cur off cs).toArray t (0, 0)) ∧ ∀ B w0, Below B w0 w → B ≤ g → Below B w0 w' := by
    by_cases h0 : m = 0
    · subst h0
      obtain rfl : cs = [] := List.eq_nil_of_length_eq_zero (by simpa using hn)
      exact ⟨w, run_copy2_none w dT sT o.type elem dp sp dLen dCap sLen sCap hu hsz hm, by simpa [splice] using hg, fun _ _ hb _ => hb⟩
    · obtain ⟨rfl, ad, rfl, hsrc⟩ := hpos (by omega)
      refine ⟨_, run_copy2 w dT sT o.type elem g off dLen dCap ad sLen sCap cur.toArray t cs m hu hsz hg hm hn hsrc (by simpa using hfit) h1, ?_, fun B w0 hb hB => below_setRow hb hB _⟩
      exact setRow_heap _ _ _ _ _ _ hg
  obtain ⟨w', hrun, h2, h3⟩ := key
  refine wpList_plain hgd fun K hK => ?_
  unfold Oper.wp
  simp [execOp, ho, resolve, invoke, builtin, hd, hs, hrun, Result.andThen]
  exact hK _ _ (h w' h2 h3)

theorem SRow.src {w : World} {B : Nat} {ao : Option Addr} {l : List Smp} (h : SRow w B ao l) (hl : 0 < l.length) : ∃ ad, ao = some ad ∧ ad.block < B ∧ ∀ j v, (cellsS l)[j]? = some v → w.cell? (ad.add j) = some v := by
  obtain ⟨b, off, e, hb, hc⟩ := h hl
  refine ⟨_, e, hb, fun j v hv => ?_⟩
  have hj : j < l.length * 2 := by
    have := (List.getElem?_eq_some_iff.1 hv).1
    rwa [cellsS_length] at this
  rw [Go.WideShapes.add_plain]
  have hk : j / 2 < l.length := by omega
  rcases Nat.mod_two_eq_zero_or_one j with h0 | h0
  · have e1 : j = j / 2 * 2 := by omega
    rw [e1] at hv ⊢
    rw [cellsS_t hk] at hv
    rw [(hc _ hk).1]; exact hv
  · have e1 : j = j / 2 * 2 + 1 := by omega
    rw [e1] at hv ⊢
    rw [cellsS_v hk] at hv
    rw [← Nat.add_assoc, (hc _ hk).2]; exact hv
theorem SRow.of_block {w : World} {g : Nat} {l : List Smp} (h : w.heap[g]? = some (.cells (cellsS l).toArray 42 (0, 0))) : SRow w w.heap.size (some ⟨g, 0, none⟩) l := fun _ => by
  refine ⟨g, 0, rfl, (Array.getElem?_eq_some_iff.1 h).1, fun k hk => ⟨?_, ?_⟩⟩
  · simp [World.cell?, h, cellsS_t hk]
  · simp [World.cell?, h, cellsS_v hk]
theorem splice_two {L X Y : List Value} (h : L.length = X.length + Y.length) : splice (splice L 0 X) X.length Y = X ++ Y := by
  unfold splice
  simp only [List.take_zero, List.nil_append, Nat.zero_add]
  have e1 : List.drop (X.length + Y.length) (X ++ List.drop X.length L) = [] := List.drop_eq_nil_of_le (by simp; omega)
  rw [e1, List.append_nil, List.take_left]
/-- The slice behind the first n of n + m. -/
theorem back_slice (g n m : Nat) : ∃ ao : Option Addr, (∀ W, (Instr.slice 50 (.slice (some ⟨g, 0, none⟩) (n + m) (n + m)) (some (.int .i64 (n : Int))) none none).run Try.prog W = .ok (.slice ao m m) W) ∧ (0 < m → ao = some ⟨g, n * 2, none⟩) := by
  refine ⟨if n + m = n then some ⟨g, 0, none⟩ else some ⟨g, n * 2, none⟩, fun W => ?_, fun h => by rw [if_neg (by omega)]⟩
  rw [run_slice_l W 50 _ (n + m) (n + m) elem32 .i64 n (by omega) (by omega), size32]
  simp only [Result.andThen, sliced, Int.toNat_natCast, Nat.add_sub_cancel_left, Option.map_some, Go.WideShapes.add_plain, Nat.zero_add]

set_option maxHeartbeats 2000000 in
set_option maxRecDepth 100000 in
theorem behind83 (ao bo : Option Addr) (c d : Nat) (x y : List Smp) (hx : x.length ≤ 8) (hy : y.length ≤ 8) (w : World) (h1 : SRow w w.heap.size ao x) (h2 : SRow w w.heap.size bo y) :
    Calls Try.prog 117 #[.slice ao x.length c, .slice bo y.length d] w fun e w' => (∃ go k, e = .returned (.slice go (x ++ y).length k) ∧ SRow w' w'.heap.size go (x ++ y)) ∧ Below w.heap.size w w' := by
  have HSx : Hid (∀ W, Below w.heap.size w W → 0 < x.length → ∃ ad, ao = some ad ∧ ∀ j v, (cellsS x)[j]? = some v → W.cell? (ad.add j) = some v) := Lib.hid (fun W hb hp => by
    obtain ⟨ad, e, hB, hc⟩ := h1.src hp
    exact ⟨ad, e, fun j v hv => (hb.cell (p := ad.add j) (by unfold Addr.add; split <;> exact hB)).trans (hc j v hv)⟩)
  have HSy : Hid (∀ W, Below w.heap.size w W → 0 < y.length → ∃ ad, bo = some ad ∧ ∀ j v, (cellsS y)[j]? = some v → W.cell? (ad.add j) = some v) := Lib.hid (fun W hb hp => by
    obtain ⟨ad, e, hB, hc⟩ := h2.src hp
    exact ⟨ad, e, fun j v hv => (hb.cell (p := ad.add j) (by unfold Addr.add; split <;> exact hB)).trans (hc j v hv)⟩)
  have hcx := cellsS_length x
  have hcy := cellsS_length y
  have HA : Hid ((x ++ y).length = x.length + y.length ∧ ∀ W : World, W.heap[w.heap.size]? = some (.cells (cellsS x ++ cellsS y).toArray 42 (0, 0)) → SRow W W.heap.size (some ⟨w.heap.size, 0, none⟩) (x ++ y)) := Lib.hid ⟨List.length_append, fun W h => SRow.of_block (by rw [cellsS_append]; exact h)⟩
  have hox : ∀ v ∈ cellsS x, v.oneCell' = true := cellsS_one
  have hoy : ∀ v ∈ cellsS y, v.oneCell' = true := cellsS_one
  rw [HA.out.1]
  obtain ⟨_, HR⟩ := HA.out
  have HR := Lib.hid HR
  generalize cellsS x = X at HSx hcx hox HR
  generalize cellsS y = Y at HSy hcy hoy HR
  generalize x ++ y = xy at HR ⊢
  generalize x.length = n at *
  generalize y.length = m at *
  clear h1 h2 HA
  obtain ⟨i0, hi, hz0, hz1, hz2⟩ := info_parts Try.info42
  have hsz : (Try.prog.info? 42).map (·.size) = some 2 := by rw [hi]; exact congrArg some hz1
  have hmk : ∀ W : World, (Instr.makeSlice 50 (.int .i64 ((n : Int) + (m : Int))) (.int .i64 ((n : Int) + (m : Int)))).run Try.prog W = .ok (.slice (some ⟨W.heap.size, 0, none⟩) (n + m) (n + m)) (W.alloc (.cells (madeCells #[.int .i64 0, .float .f64 0] ((n + m) * 2)) 42)) := fun W => by
    have := run_make W 50 42 i0 _ Try.underlying50 hi hz0 .i64 .i64 ((n : Int) + (m : Int)) ((n : Int) + (m : Int)) (by omega) (by omega) (by rw [hz2]; omega) (by omega)
    rw [hz1, show ((n : Int) + (m : Int)).toNat = n + m by omega] at this
    exact this
  obtain ⟨bk, hbk, hbk2⟩ := back_slice w.heap.size n m
  obtain ⟨L, hL⟩ : ∃ L, L = (madeCells #[.int .i64 0, .float .f64 0] ((n + m) * 2)).toList := ⟨_, rfl⟩
  have hLl : L.length = (n + m) * 2 := by rw [hL, Array.length_toList, size_madeCells]
  have hLa : madeCells #[.int .i64 0, .float .f64 0] ((n + m) * 2) = L.toArray := by rw [hL, Array.toArray_toList]
  rw [hLa] at hmk
  have HSp := Lib.hid (splice_two (L := L) (X := X) (Y := Y) (by omega))
  have HB1 := Lib.hid ((Below.refl w.heap.size w).alloc (Nat.le_refl _) (.cells L.toArray 42))
  have HG1 : Hid ((w.alloc (.cells L.toArray 42)).heap[w.heap.size]? = some (.cells L.toArray 42 (0, 0))) := Lib.hid (World.alloc_heap_new w _)
  have hS1 : (splice L 0 X).length = (n + m) * 2 := by rw [length_splice _ _ _ (by omega)]; exact hLl
  clear hL hLa
  go_enter Try.func117, Try.ntmps117
  go_wp2_with (refine wp_copy2 rfl _ _ 50 50 rfl 42 Try.underlying50 hsz _ _ _ _ _ _ rfl rfl n ?m1 w.heap.size 0 L 42 ?g1 X hcx ?p1 ?f1 hox ?_)
  case g1 => exact HG1.out
  case f1 => omega
  case m1 => exact Nat.min_eq_left (by omega)
  case p1 => first | exact fun hp => HSx.out _ HB1.out hp | exact fun hp => ⟨rfl, HSx.out _ HB1.out hp⟩
  intro w2 hg2 hb2
  have HG2 := Lib.hid hg2
  have HB2 := Lib.hid (hb2 _ _ HB1.out (Nat.le_refl _))
  clear hg2 hb2 HG1
  go_wp2_with (refine wp_copy2 rfl _ _ 50 50 rfl 42 Try.underlying50 hsz _ _ _ _ _ _ rfl rfl m ?m2 w.heap.size (n * 2) (splice L 0 X) 42 ?g2 Y hcy ?p2 ?f2 hoy ?_)
  case g2 => exact HG2.out
  case f2 => omega
  case m2 => exact Nat.min_self _
  case p2 => exact fun hp => ⟨hbk2 hp, HSy.out _ HB2.out hp⟩
  intro w3 hg3 hb3
  rw [← hcx, HSp.out] at hg3
  have HR3 := Lib.hid (HR.out _ hg3)
  have HB3 := Lib.hid (hb3 _ _ HB2.out (Nat.le_refl _))
  clear hg3 hb3
  go_wp2
  go_ret
  exact ⟨⟨_, _, rfl, HR3.out⟩, HB3.out⟩
end Go.Proofs.Yteiefngamccapaa
