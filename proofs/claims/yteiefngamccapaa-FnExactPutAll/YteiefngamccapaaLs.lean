/- Contract of lastSample in the program: the last sample of a series, sought from the end. -/
import Derived.Test.YteiefngamccapaaLsMath
import Derived.Test.YteiefngamccapaaK14
import Derived.Test.YteiefngamccapaaK5
namespace Go.Proofs.Yteiefngamccapaa
open Go.RowKit Go.Shelf
attribute [local go_sem] Oper.semAt_some

theorem back87 (ao : Option Addr) (n cap : Nat) (w : World) : Calls Try.prog 87 #[.slice ao n cap] w fun e w' => e = .returned (.func (.func 101) #[] #[.pointer (some ⟨w.heap.size, 0, none⟩)]) ∧ w' = w.alloc (.cells #[.slice ao n cap] 27) := by
  go_enter Try.func87, Try.ntmps87
  go_wp2
  go_ret
  exact ⟨rfl, rfl⟩

/-- The box of the answer. -/
theorem bs_own' {β : Type} (B g : Nat) (f : β → Smp) : OwnFrom B (fun (s : β) W => Bs W g (f s)) := fun _ X Y row hs hg hr =>
  (hg.block g (Array.getElem?_eq_some_iff.1 hs).1 (fun e => by obtain ⟨_, o, ho, hc⟩ := hr g e.symm; rw [show X.heap[g]? = _ from hs] at ho; cases ho; cases hc)).trans hs
theorem Bs.cells {W : World} {g : Nat} {x : Smp} (h : Bs W g x) : W.cell? ⟨g, 0, none⟩ = some (.int .i64 x.1) ∧ W.cell? ⟨g, 1, none⟩ = some (.float .f64 x.2) ∧ W.frozen? ⟨g, 0, none⟩ = false ∧ W.frozen? ⟨g, 1, none⟩ = false := by
  refine ⟨?_, ?_, ?_, ?_⟩ <;> simp [World.cell?, World.frozen?, show W.heap[g]? = _ from h]
theorem Bs.set {W : World} {g : Nat} {x : Smp} (h : Bs W g x) (t : Int) (v : Nat) : Bs ((W.setCell ⟨g, 0, none⟩ (.int .i64 t)).setCell ⟨g, 1, none⟩ (.float .f64 v)) g (t, v) :=
  set_at (i := 1) (v := .float .f64 v) (set_at (i := 0) (v := .int .i64 t) h)
theorem Bs.far {W : World} {g p i : Nat} {x : Smp} {v : Value} (h : Bs W g x) (hne : g ≠ p) : Bs (W.setCell ⟨p, i, none⟩ v) g x :=
  (Below.heap_setCell _ _ _ g (by exact hne)).trans h
theorem Bs.below {W W' : World} {g : Nat} {x : Smp} (h : Bs W g x) (hb : Below W.heap.size W W') : Bs W' g x := (hb.block g (Array.getElem?_eq_some_iff.1 h).1).trans h
theorem boxed_below {W W' : World} {B : Nat} {t : TypeId} {v : Value} (h : Boxed W B t v) (hb : Below W.heap.size W W') : Boxed W' B t v := (hb.block B h.lt).trans h
theorem boxed_far {W : World} {B p i : Nat} {t : TypeId} {v u : Value} (h : Boxed W B t v) (hne : B ≠ p) : Boxed (W.setCell ⟨p, i, none⟩ u) B t v :=
  (Below.heap_setCell _ _ _ B (by exact hne)).trans h
theorem KeepsOthers.of_below {W W' : World} (hb : Below W.heap.size W W') : KeepsOthers W W' := ⟨hb.size, fun k _ h _ => (hb.block k (Array.getElem?_eq_some_iff.1 h).1).trans h⟩
/-- The loop is left at the last one of these. -/
def Lf (l : List Chk) (pre : List (Fin l.length)) : Prop := ∃ q i, pre = q ++ [i] ∧ (∀ j ∈ q, soL l[j.val] = []) ∧ 0 < (soL l[i.val]).length
noncomputable def lfV (l : List Chk) (pre : List (Fin l.length)) : Smp := match pre.getLast? with
  | some i => lsV (soL l[i.val])
  | none => (0, 0)
theorem lfV_snoc (l : List Chk) (q : List (Fin l.length)) (i : Fin l.length) : lfV l (q ++ [i]) = lsV (soL l[i.val]) := by
  unfold lfV; rw [List.getLast?_append, List.getLast?_singleton]; rfl

def LsEnd (x : List Smp) (w : World) (e : Ending) (w' : World) : Prop := e = .returned (.tuple #[.agg #[.int .i64 (lsV x).1, .float .f64 (lsV x).2], .bool (lsB x)]) ∧ Below w.heap.size w w'

set_option maxRecDepth 100000 in
set_option maxHeartbeats 4000000 in
theorem lastI (p : Nat) (ao : Option Addr) (cap : Nat) (l : List Chk) (fl : Int) (hn : l.length ≤ 1048576) (hF : FitC l 1048576) (w : World) (hp : Bt w p (.slice ao l.length cap) (.int .i64 fl)) (h : CRow w w.heap.size ao l) :
    Calls Try.prog 67 #[.pointer (some ⟨p, 0, none⟩)] w (LsEnd (serL l) w) := by
  have hst := @run_store_float Try.prog
  have hpl := hp.lt
  have hp2 := (hp.alloc (.cells #[.int .i64 0, .float .f64 0] 42)).alloc (.cells #[.bool false] 4)
  have hb2 := ((Below.refl w.heap.size w).alloc (Nat.le_refl _) (.cells #[.int .i64 0, .float .f64 0] 42)).alloc (by simp) (.cells #[.bool false] 4)
  obtain ⟨p0, p1, _⟩ := hp2.cells
  refine (callsIn_wide (n := 3)).1 ?_
  refine callsIn_of_wp_marks Try.func67 rfl trivial ?_ rfl
  simp only [Try.ntmps67, List.size_toArray, List.length_cons, List.length_nil, Nat.reduceAdd, Nat.reduceSub, Array.replicate_succ, Array.replicate_zero, List.push_toArray, List.append_toArray, List.nil_append, List.cons_append]
  gi_wp2_with fail
  refine ⟨trivial, ?_⟩
  refine (callsIn_wide.2 (back87 ao l.length cap _)).mono ?_
  rintro e w' ⟨rfl, rfl⟩
  gi_wp2_with fail
  have bS : Bs (((w.alloc (.cells #[.int .i64 0, .float .f64 0] 42)).alloc (.cells #[.bool false] 4)).alloc (.cells #[.slice ao l.length cap] 27)) w.heap.size (0, 0) := (Below.heap_alloc _ _ _ (by simp; omega)).trans ((Below.heap_alloc _ _ _ (by simp)).trans (World.alloc_heap_new w _))
  have bB := (Boxed.new (w.alloc (.cells #[.int .i64 0, .float .f64 0] 42)) 4 (.bool false)).alloc (.cells #[.slice ao l.length cap] 27)
  have bK := Boxed.new ((w.alloc (.cells #[.int .i64 0, .float .f64 0] 42)).alloc (.cells #[.bool false] 4)) 27 (.slice ao l.length cap)
  simp only [World.size_alloc] at bB bK
  have hB0 : Below w.heap.size w (((w.alloc (.cells #[.int .i64 0, .float .f64 0] 42)).alloc (.cells #[.bool false] 4)).alloc (.cells #[.slice ao l.length cap] 27)) := hb2.alloc (by simp; omega) _
  have hC0 := GR.below h hB0
  have hsz : (((w.alloc (.cells #[.int .i64 0, .float .f64 0] 42)).alloc (.cells #[.bool false] 4)).alloc (.cells #[.slice ao l.length cap] 27)).heap.size = w.heap.size + 3 := by simp
  obtain ⟨W0, hW0⟩ : ∃ W0, (((w.alloc (.cells #[.int .i64 0, .float .f64 0] 42)).alloc (.cells #[.bool false] 4)).alloc (.cells #[.slice ao l.length cap] 27)) = W0 := ⟨_, rfl⟩
  rw [hW0] at bS bB bK hB0 hC0 hsz ⊢
  clear hW0 hp2 hb2 p0 p1
  refine wpIn_rangeFunc_ownH rfl (by omega) (gf := 101) (lb := #[.pointer (some ⟨w.heap.size + 1 + 1, 0, none⟩)]) rfl trivial (enters_of Try.func101 (by kernel_rfl) rfl)
    (N := l.length) (w0 := W0) (S := fun ys : List (Fin l.length) => Dn ys ∧ ys.length = l.length) (Sp := fun pre => Dn pre) (encs := bkV l)
    (fun lp J Jx W hW _ _ hY h0 => iterB 2 (by omega) lp (w.heap.size + 1 + 1) w.heap.size ao cap l hn J Jx hY W (boxed_below bK hW) (hC0.below (hW.mono (by omega))) h0)
    KpC.trans (fun W l o o' _ h1 h2 _ => KpC.put W l o o' h1 h2) (Below.refl _ _) (fun _ => rfl)
    (fun pre W => (((∀ i ∈ pre, soL l[i.val] = []) ∧ Bs W w.heap.size (0, 0)) ∧ Boxed W (w.heap.size + 1) 4 (.bool false)) ∧ Below w.heap.size w W)
    (fun c pre W => (((c = .ret ∧ Lf l pre) ∧ Bs W w.heap.size (lfV l pre)) ∧ Boxed W (w.heap.size + 1) 4 (.bool true)) ∧ Below w.heap.size w W)
    (OwnFrom.and (OwnFrom.and (OwnFrom.and (ownFrom_pure _ _) (bs_own _ _ _)) ((boxed_own _ _ (fun _ => .bool false)).from _)) (ownFrom_below (Nat.le_refl _) (by omega)))
    (fun c => OwnFrom.and (OwnFrom.and (OwnFrom.and (ownFrom_pure _ _) (bs_own' _ _ _)) ((boxed_own _ _ (fun _ => .bool true)).from _)) (ownFrom_below (Nat.le_refl _) (by omega)))
    ⟨⟨⟨fun i hi => by simp at hi, bS⟩, bB⟩, hB0⟩
    (fun x a' W => ∃ g, Bq W g (l[x.val]).1 (l[x.val]).2.1 (l[x.val]).2.2.1 (l[x.val]).2.2.2 ∧ a' = { tmps := #[.pointer (some ⟨p, 0, none⟩), undef, .pointer (some ⟨w.heap.size, 0, none⟩), .pointer (some ⟨w.heap.size + 1, 0, none⟩), undef, .pointer (some ⟨g, 0, none⟩), undef, undef, .pointer (some ⟨p, 0, none⟩), .pointer (some ⟨p, 0, none⟩), .pointer (some ⟨p, 0, none⟩), .slice ao l.length cap, .func (.func 101) #[] #[.pointer (some ⟨w.heap.size + 1 + 1, 0, none⟩)], .int .i64 (x.val : Int), .agg #[.string (l[x.val]).1, .int .i64 (l[x.val]).2.1, .int .i64 (l[x.val]).2.2.1, .int .i64 (l[x.val]).2.2.2], undef, undef, undef, undef, undef, undef, undef, undef, undef, undef, undef, undef, undef, undef, undef], defers := [] })
    (fun x a' _ X Y row hs hg hr => by
      obtain ⟨g, hb, e⟩ := hs
      exact ⟨g, bq_own _ g _ _ _ _ () X Y row hb hg hr, e⟩) ?assign ?body ?done ?stop
  case assign =>
    rintro lp pre x W K ⟨⟨⟨hp0, hs⟩, hb⟩, hB⟩ hK
    gi_wp2
    exact hK _ _ ((KeepsOthers.alloc _ _).from _) (KpC.of_below ((Below.refl _ _).alloc (Nat.le_refl _) _)) ⟨⟨⟨hp0, (Below.heap_alloc _ _ _ (Array.getElem?_eq_some_iff.1 hs).1).trans hs⟩, hb.alloc _⟩, hB.alloc hB.size _⟩ ⟨W.heap.size, World.alloc_heap_new W _, rfl⟩
  case body =>
    rintro lp pre x a' W hl ⟨r, hr⟩ ⟨⟨⟨hp0, hs⟩, hb⟩, hB⟩ ⟨g, hbq, rfl⟩ hlt
    obtain ⟨y0, y1, y2, y3, _⟩ := Bx.cells (w := W) (g := g) ⟨85, hbq⟩
    have HC : Hid (∀ W, Calls Try.prog 76 #[.agg #[.string (l[x.val]).1, .int .i64 (l[x.val]).2.1, .int .i64 (l[x.val]).2.2.1, .int .i64 (l[x.val]).2.2.2]] W (SoEnd l[x.val] W)) := Lib.hid (fun W => of27 _ _ _ _ (hF _ (List.getElem_mem _)) W)
    have HP0 := Lib.hid hp0
    have HS0 := Lib.hid hs
    have HBo := Lib.hid hb
    have HB := Lib.hid hB
    have hwl : w.heap.size + 1 < W.heap.size := hb.lt
    have HX := Lib.hid (lfV_snoc l pre x)
    have HLf := Lib.hid (fun h : 0 < (soL l[x.val]).length => show Lf l (pre ++ [x]) from ⟨pre, x, rfl, hp0, h⟩)
    have HNn := Lib.hid (fun h : soL l[x.val] = [] => show ∀ i ∈ pre ++ [x], soL l[i.val] = [] from fun i hi => by
      rcases List.mem_append.1 hi with h1 | h1
      · exact hp0 i h1
      · rw [List.mem_singleton.1 h1]; exact h)
    have h8 := (so_fit l[x.val]).2
    unfold SoEnd at HC
    clear hp0 hs hb hB hbq hr bS bB bK hB0 hC0
    generalize soL l[x.val] = z at HC HX HLf HNn h8
    generalize soB l[x.val] = zb at HC
    by_cases h0 : 0 < z.length
    case neg =>
      have hz : z = [] := List.eq_nil_of_length_eq_zero (by omega)
      have HN2 := Lib.hid (HNn.out hz)
      subst hz
      simp only [List.length_nil] at HC
      clear h0 HNn HLf HX
      gi_wp2_with fail
      refine ⟨trivial, ?_⟩
      refine (callsIn_wide.2 (HC.out _)).mono ?_
      rintro e w2 ⟨⟨bo, cp, rfl, _⟩, hb2⟩
      have HR : Hid ((KeepsFrom W0.heap.size W w2 ∧ KpC W w2 ∧ (((∀ i ∈ pre ++ [x], soL l[i.val] = []) ∧ Bs w2 w.heap.size (0, 0)) ∧ Boxed w2 (w.heap.size + 1) 4 (.bool false)) ∧ Below w.heap.size w w2)) := Lib.hid ⟨(KeepsOthers.of_below hb2).from _, KpC.of_below hb2, ⟨⟨HN2.out, HS0.out.below hb2⟩, boxed_below HBo.out hb2⟩, HB.out.trans (hb2.mono HB.out.size)⟩
      clear hb2
      gi_wp2
      exact HR.out
    have HL2 := Lib.hid (HLf.out h0)
    obtain ⟨m, hm⟩ : ∃ m, m + 1 = z.length := ⟨z.length - 1, by omega⟩
    have HZ : Hid (lsV z = (tF z m, vF z m)) := Lib.hid (by unfold lsV; rw [if_pos h0, show z.length - 1 = m by omega])
    have hw1 : (z.length : Int) - 1 = (m : Int) := by omega
    have hm0 : (0 : Int) ≤ (m : Int) := by omega
    have hml : (m : Int) < (z.length : Int) := by omega
    have hml2 : m < z.length := by omega
    have hz0 : (0 : Int) < (z.length : Int) := by omega
    clear hm HNn HLf
    gi_wp2_with fail
    refine ⟨trivial, ?_⟩
    refine (callsIn_wide.2 (HC.out _)).mono ?_
    rintro e w2 ⟨⟨bo, cp, rfl, ho⟩, hb2⟩
    obtain ⟨b, off, hbo, hbl, hcc⟩ := (SRow.of_own ho).2.tv h0
    subst hbo
    obtain ⟨c0, c1⟩ := hcc m hml2
    obtain ⟨s0, s1, sf0, sf1⟩ := (HS0.out.below hb2).cells
    have t0 := (boxed_below HBo.out hb2).cell
    have tf := (boxed_below HBo.out hb2).frozen
    have HR : Hid (KeepsFrom W0.heap.size W (((w2.setCell ⟨w.heap.size, 0, none⟩ (.int .i64 (tF z m))).setCell ⟨w.heap.size, 1, none⟩ (.float .f64 (vF z m))).setCell ⟨w.heap.size + 1, 0, none⟩ (.bool true)) ∧ ((((Code.ret = .ret ∧ Lf l (pre ++ [x])) ∧ Bs (((w2.setCell ⟨w.heap.size, 0, none⟩ (.int .i64 (tF z m))).setCell ⟨w.heap.size, 1, none⟩ (.float .f64 (vF z m))).setCell ⟨w.heap.size + 1, 0, none⟩ (.bool true)) w.heap.size (lfV l (pre ++ [x]))) ∧ Boxed (((w2.setCell ⟨w.heap.size, 0, none⟩ (.int .i64 (tF z m))).setCell ⟨w.heap.size, 1, none⟩ (.float .f64 (vF z m))).setCell ⟨w.heap.size + 1, 0, none⟩ (.bool true)) (w.heap.size + 1) 4 (.bool true)) ∧ Below w.heap.size w (((w2.setCell ⟨w.heap.size, 0, none⟩ (.int .i64 (tF z m))).setCell ⟨w.heap.size, 1, none⟩ (.float .f64 (vF z m))).setCell ⟨w.heap.size + 1, 0, none⟩ (.bool true)))) := Lib.hid (by
      refine ⟨((((KeepsOthers.of_below hb2).trans (KeepsOthers.setCell _ _ _)).trans (KeepsOthers.setCell _ _ _)).trans (KeepsOthers.setCell _ _ _)).from _, ⟨⟨⟨rfl, HL2.out⟩, ?_⟩, ?_⟩, ?_⟩
      · rw [HX.out, HZ.out]; exact ((HS0.out.below hb2).set _ _).far (by omega)
      · exact (boxed_far (boxed_far (boxed_below HBo.out hb2) (by omega)) (by omega)).set _
      · exact (((HB.out.trans (hb2.mono HB.out.size)).setCell (Nat.le_refl _) _).setCell (Nat.le_refl _) _).setCell (by dsimp only; omega) _)
    clear hb2 ho hcc
    generalize tF z m = tt at c0 HR
    generalize vF z m = vv at c1 HR
    gi_wp2
    exact ⟨HR.out.1, ⟨⟨⟨rfl, HR.out.2.1.1.1.2⟩, HR.out.2.1.1.2⟩, HR.out.2.1.2⟩, HR.out.2.2⟩
  case done =>
    rintro D xs W hD ⟨hDn, hlen⟩ ⟨⟨⟨hp0, hs⟩, hb⟩, hB⟩ hK
    have hN := ls_none hDn hlen hp0
    obtain ⟨s0, s1, sf0, sf1⟩ := hs.cells
    have t0 := hb.cell
    have tf := hb.frozen
    have hDw : w.heap.size + 1 < D := by omega
    have HK2 : Hid ((((W.setCell ⟨w.heap.size, 0, none⟩ (.int .i64 0)).setCell ⟨w.heap.size, 1, none⟩ (.float .f64 0)).setCell ⟨w.heap.size + 1, 0, none⟩ (.bool false)).heap[D]? = some (.deferred (some []))) := Lib.hid (by
      rw [Below.heap_setCell _ _ _ D (by dsimp only; omega), Below.heap_setCell _ _ _ D (by dsimp only; omega), Below.heap_setCell _ _ _ D (by dsimp only; omega)]
      exact hK)
    have HS2 := Lib.hid ((hs.set 0 0).far (p := w.heap.size + 1) (i := 0) (v := .bool false) (by omega))
    have HT2 := Lib.hid ((boxed_far (boxed_far (p := w.heap.size) (i := 0) (u := .int .i64 0) hb (by omega)) (p := w.heap.size) (i := 1) (u := .float .f64 0) (by omega)).set (.bool false))
    have HB2 : Hid (Below w.heap.size w (((W.setCell ⟨w.heap.size, 0, none⟩ (.int .i64 0)).setCell ⟨w.heap.size, 1, none⟩ (.float .f64 0)).setCell ⟨w.heap.size + 1, 0, none⟩ (.bool false))) := Lib.hid (((hB.setCell (Nat.le_refl _) _).setCell (Nat.le_refl _) _).setCell (by dsimp only; omega) _)
    clear hs hb hB hK
    gi_wp2
    refine ⟨by simp, .inl ⟨_, _, rfl, run_takeDeferred HK2.out, ?_⟩⟩
    have HS3 : Hid (Bs ((((W.setCell ⟨w.heap.size, 0, none⟩ (.int .i64 0)).setCell ⟨w.heap.size, 1, none⟩ (.float .f64 0)).setCell ⟨w.heap.size + 1, 0, none⟩ (.bool false)).putObj D (.deferred none)) w.heap.size ((0, 0) : Smp)) := Lib.hid ((World.putObj_heap_other (by omega)).trans HS2.out)
    have HT3 : Hid (Boxed ((((W.setCell ⟨w.heap.size, 0, none⟩ (.int .i64 0)).setCell ⟨w.heap.size, 1, none⟩ (.float .f64 0)).setCell ⟨w.heap.size + 1, 0, none⟩ (.bool false)).putObj D (.deferred none)) (w.heap.size + 1) 4 (.bool false)) := Lib.hid ((World.putObj_heap_other (by omega)).trans HT2.out)
    have HB3 : Hid (Below w.heap.size w ((((W.setCell ⟨w.heap.size, 0, none⟩ (.int .i64 0)).setCell ⟨w.heap.size, 1, none⟩ (.float .f64 0)).setCell ⟨w.heap.size + 1, 0, none⟩ (.bool false)).putObj D (.deferred none))) := Lib.hid (HB2.out.trans (belowK_b (w := w) (Nat.le_refl _) _ D _ _ (by omega) HK2.out rfl rfl))
    obtain ⟨q0, q1, _⟩ := HS3.out.cells
    have qt := HT3.out.cell
    exact ⟨.tuple #[.agg #[.int .i64 ((0, 0) : Smp).1, .float .f64 ((0, 0) : Smp).2], .bool false], by simp [results, Try.results67, go_sem, q0, q1, qt], rfl, HB3.out⟩
  case stop =>
    rintro D c pre W hD hDn ⟨⟨⟨⟨rfl, q, i, rfl, hq, h0⟩, hs⟩, hb⟩, hB⟩ hK
    have hN := ls_some hDn hq h0
    rw [lfV_snoc, ← hN.1] at hs
    obtain ⟨s0, s1, sf0, sf1⟩ := hs.cells
    have t0 := hb.cell
    have tf := hb.frozen
    have hDw : w.heap.size + 1 < D := by omega
    have HK2 := Lib.hid hK
    have HS2 := Lib.hid hs
    have HT2 := Lib.hid hb
    have HB2 := Lib.hid hB
    clear hs hb hB hK
    gi_wp2
    refine ⟨by simp, .inl ⟨_, _, rfl, run_takeDeferred HK2.out, ?_⟩⟩
    have HS3 : Hid (Bs (W.putObj D (.deferred none)) w.heap.size (lsV (serL l))) := Lib.hid ((World.putObj_heap_other (by omega)).trans HS2.out)
    have HT3 : Hid (Boxed (W.putObj D (.deferred none)) (w.heap.size + 1) 4 (.bool true)) := Lib.hid ((World.putObj_heap_other (by omega)).trans HT2.out)
    have HB3 : Hid (Below w.heap.size w (W.putObj D (.deferred none))) := Lib.hid (HB2.out.trans (belowK_b (w := w) (Nat.le_refl _) _ D _ _ (by omega) HK2.out rfl rfl))
    obtain ⟨q0, q1, _⟩ := HS3.out.cells
    have qt := HT3.out.cell
    exact ⟨.tuple #[.agg #[.int .i64 (lsV (serL l)).1, .float .f64 (lsV (serL l)).2], .bool true], by simp [results, Try.results67, go_sem, q0, q1, qt], by rw [hN.2], HB3.out⟩
end Go.Proofs.Yteiefngamccapaa
