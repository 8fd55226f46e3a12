/- Contract of SamplesOf in the program, over this seat's translation: the samples that a chunk holds, or that it holds none. -/
import Derived.Test.YteiefngamccapaaIt
import Derived.Test.YteiefngamccapaaJx43
namespace Go.Proofs.Yteiefngamccapaa
open Go.RowKit Go.Shelf
attribute [local go_sem] Oper.semAt_some

theorem col_gc {c : Chk} {xs l : List Smp} (h : Col c.1.data.toList xs) (hl : GC c l) : xs = l := by
  by_cases hc : c = zeroC
  · subst hc
    rw [GC.zero hl]
    exact h.2.2.2 rfl
  · exact h.2.2.1 l hl.1 (by have := hl.len; omega) (hl.bytes hc)
theorem kp_append {W w1 : World} {n₀ B k : Nat} {v v' : Value} {xs : List Value} {tmp : Obj} (hv : Boxed W B 50 v) (hrow : W.ownsRow n₀ 42 2 v k xs) (hgrow : (W.alloc tmp).grownBy w1 v.ownBlock) : KpT W (w1.setCell ⟨B, 0, none⟩ v') := by
  intro g cs t h1 h2 h
  have hlt : g < W.heap.size := (Array.getElem?_eq_some_iff.1 h).1
  have hgB : g ≠ B := by
    intro e
    subst e
    have := (show W.heap[g]? = _ from hv).symm.trans h
    simp at this
    exact h1 this.2.symm
  rw [Below.heap_setCell _ _ _ g hgB, hgrow.block g (by simp; omega) (fun e => ?_), Below.heap_alloc _ _ g hlt]
  · exact h
  · rcases hrow.2 with ⟨rfl, _⟩ | ⟨q, cap, cur, rfl, _, hgb, _⟩
    · simp [Value.ownBlock] at e
    · obtain rfl : g = q := by simpa [Value.ownBlock] using e
      have := hgb.symm.trans h
      simp at this
      exact h2 this.2.symm
theorem kp_alloc (W : World) (o : Obj) : KpT W (W.alloc o) := fun g _ _ _ _ h => (Below.heap_alloc _ _ g (Array.getElem?_eq_some_iff.1 h).1).trans h
/-- The chunk's own box. -/
def Bq (W : World) (g : Nat) (s : ByteArray) (a b c : Int) : Prop := W.heap[g]? = some (.cells #[.string s, .int .i64 a, .int .i64 b, .int .i64 c] 85)
theorem bq_own {β : Type} (B g : Nat) (s : ByteArray) (a b c : Int) : OwnFrom B (fun (_ : β) W => Bq W g s a b c) := fun _ X Y row hs hg hr =>
  (hg.block g (Array.getElem?_eq_some_iff.1 hs).1 (fun e => by obtain ⟨_, o, ho, hc⟩ := hr g e.symm; rw [show X.heap[g]? = _ from hs] at ho; cases ho; cases hc)).trans hs
/-- The loop variable's box. -/
def Bs (W : World) (g : Nat) (x : Smp) : Prop := W.heap[g]? = some (.cells #[.int .i64 x.1, .float .f64 x.2] 42)
theorem bs_own {β : Type} (B g : Nat) (x : Smp) : OwnFrom B (fun (_ : β) W => Bs W g x) := fun _ X Y row hs hg hr =>
  (hg.block g (Array.getElem?_eq_some_iff.1 hs).1 (fun e => by obtain ⟨_, o, ho, hc⟩ := hr g e.symm; rw [show X.heap[g]? = _ from hs] at ho; cases ho; cases hc)).trans hs

set_option maxRecDepth 100000 in
set_option maxHeartbeats 4000000 in
theorem of27 (s : ByteArray) (c1 c2 c3 : Int) (hs : s.size ≤ 1048576) (w : World) : Calls Try.prog 76 #[.agg #[.string s, .int .i64 c1, .int .i64 c2, .int .i64 c3]] w (SoEnd (s, c1, c2, c3) w) := by
  obtain ⟨i0, hi, hz0, hz1, hz2⟩ := info_parts Try.info42
  have hst := @run_store_float Try.prog
  refine (callsIn_wide (n := 3)).1 ?_
  refine callsIn_of_wp_marks Try.func76 rfl trivial ?_ rfl
  simp only [Try.ntmps76, List.size_toArray, List.length_cons, List.length_nil, Nat.reduceAdd, Nat.reduceSub, Array.replicate_succ, Array.replicate_zero, List.push_toArray, List.append_toArray, List.nil_append, List.cons_append]
  gi_wp2_with fail
  refine ⟨trivial, ?_⟩
  refine (callsIn_wide.2 (in78 s _)).mono ?_
  rintro e w' ⟨rfl, rfl⟩
  gi_wp2_with fail
  have bC : Bq (((w.alloc (.cells #[.string s, .int .i64 c1, .int .i64 c2, .int .i64 c3] 85)).alloc (.cells #[.slice none 0 0] 50)).alloc (.cells #[.string s] 9)) w.heap.size s c1 c2 c3 :=
    (Below.heap_alloc _ _ _ (by simp; omega)).trans ((Below.heap_alloc _ _ _ (by simp)).trans (World.alloc_heap_new w _))
  have bL := (Boxed.new (w.alloc (.cells #[.string s, .int .i64 c1, .int .i64 c2, .int .i64 c3] 85)) 50 (.slice none 0 0)).alloc (.cells #[.string s] 9)
  have bT := Boxed.new ((w.alloc (.cells #[.string s, .int .i64 c1, .int .i64 c2, .int .i64 c3] 85)).alloc (.cells #[.slice none 0 0] 50)) 9 (.string s)
  simp only [World.size_alloc] at bL bT
  have hB0 : Below w.heap.size w (((w.alloc (.cells #[.string s, .int .i64 c1, .int .i64 c2, .int .i64 c3] 85)).alloc (.cells #[.slice none 0 0] 50)).alloc (.cells #[.string s] 9)) := (((Below.refl _ w).alloc (Nat.le_refl _) _).alloc (by simp) _).alloc (by simp; omega) _
  have hsz : (((w.alloc (.cells #[.string s, .int .i64 c1, .int .i64 c2, .int .i64 c3] 85)).alloc (.cells #[.slice none 0 0] 50)).alloc (.cells #[.string s] 9)).heap.size = w.heap.size + 3 := by simp
  obtain ⟨W0, hW0⟩ : ∃ W0, ((w.alloc (.cells #[.string s, .int .i64 c1, .int .i64 c2, .int .i64 c3] 85)).alloc (.cells #[.slice none 0 0] 50)).alloc (.cells #[.string s] 9) = W0 := ⟨_, rfl⟩
  rw [hW0] at bC bL bT hB0 hsz ⊢
  clear hW0
  refine wpIn_rangeFunc_ownH rfl (by omega) (gf := 111) (lb := #[.pointer (some ⟨w.heap.size + 1 + 1, 0, none⟩)]) rfl trivial (enters_of Try.func111 (by kernel_rfl) rfl)
    (iter_stops 2 (by omega) (w.heap.size + 1 + 1) s hs W0 bT) KpT.trans (fun W l o o' _ h1 h2 _ => KpT.put W l o o' h1 h2) (Below.refl _ _) (fun _ => rfl)
    (fun pre W => ((∃ v, Boxed W (w.heap.size + 1) 50 v ∧ W.ownsRow w.heap.size 42 2 v pre.length (cellsS pre) ∧ True) ∧ Bq W w.heap.size s c1 c2 c3) ∧ Below w.heap.size w W)
    (fun _ _ _ => False)
    (OwnFrom.and (OwnFrom.and (Own.from (holdsRow_own w.heap.size (w.heap.size + 1) 50 42 2 (fun pre => pre.length) cellsS (fun _ _ => True)) _) (bq_own _ _ _ _ _ _)) (ownFrom_below (Nat.le_refl _) (by omega)))
    (fun _ _ _ _ _ hs _ _ => hs)
    ⟨⟨⟨_, bL, World.ownsRow_nil _ _ _ _, trivial⟩, bC⟩, hB0⟩
    (fun x a' W => ∃ g, Bs W g x ∧ a' = { tmps := #[.agg #[.string s, .int .i64 c1, .int .i64 c2, .int .i64 c3], .pointer (some ⟨w.heap.size, 0, none⟩), .slice none 0 0, .bool false, .pointer (some ⟨w.heap.size + 1, 0, none⟩), .pointer (some ⟨g, 0, none⟩), undef, undef, .pointer (some ⟨w.heap.size, 0, none⟩), .string s, .func (.func 111) #[] #[.pointer (some ⟨w.heap.size + 1 + 1, 0, none⟩)], .agg #[.int .i64 x.1, .float .f64 x.2], undef, undef, undef, undef, undef, undef, undef, undef, undef, undef, undef, undef, undef, undef, undef, undef, undef], defers := [] })
    (fun x a' _ X Y row hs hg hr => by
      obtain ⟨g, hb, e⟩ := hs
      exact ⟨g, bs_own _ g x () X Y row hb hg hr, e⟩) ?assign ?body ?done ?stop
  case assign =>
    rintro l pre x W K ⟨⟨⟨v, hv, hrow, _⟩, hq⟩, hB⟩ hK
    gi_wp2
    exact hK _ _ ((KeepsOthers.alloc _ _).from _) (kp_alloc _ _) ⟨⟨⟨v, hv.alloc _, hrow.alloc _, trivial⟩, (Below.heap_alloc _ _ _ (Array.getElem?_eq_some_iff.1 hq).1).trans hq⟩, hB.alloc hB.size _⟩ ⟨W.heap.size, World.alloc_heap_new W _, rfl⟩
  case body =>
    rintro l pre x a' W hl ⟨r, hr⟩ ⟨⟨⟨v, hv, hrow, _⟩, hq⟩, hB⟩ ⟨g, hbs, rfl⟩ hlt
    have hc := hv.cell
    have hs0 : W.cell? ⟨g, 0, none⟩ = some (.int .i64 x.1) := by simp [World.cell?, show W.heap[g]? = _ from hbs]
    have hs1 : W.cell? ⟨g, 1, none⟩ = some (.float .f64 x.2) := by simp [World.cell?, show W.heap[g]? = _ from hbs]
    have hwsz := hB.size
    gi_wp2_with (gi_at_builtin; refine wpListIn_append_own _ rfl _ _ 50 rfl w.heap.size 42 i0 (.agg #[.int .i64 0, .float .f64 0]) 2 16 Try.underlying50 hi hz0 hz1 hz2 rfl (by decide) _ _ _ rfl (hrow.alloc _) ⟨W.heap.size, 0, none⟩ 1 1 [.int .i64 x.1, .float .f64 x.2] rfl rfl new_two (by simp [Value.oneCell']) (by unfold maxLen; omega) (by omega) (by simp; omega) ?_; intro v' w1 hown' hgrow _; obtain ⟨g', cap', rfl⟩ := ownsRow_succ hown'; obtain ⟨hv1, hv2, hr2, hk2, hb2⟩ := hv.appended (by decide) hrow hB.size (by omega) hown' hgrow; have hkp := kp_append (v' := .slice (some ⟨g', 0, none⟩) (pre.length + 1) cap') hv hrow hgrow; have hc1 := hv1.cell; have hf1 := hv1.frozen)
    exact ⟨hk2.from _, hkp, ⟨⟨_, hv2, by rw [cellsS_append, List.length_append]; exact hr2, trivial⟩, hkp _ _ _ (by decide) (by decide) hq⟩, hB.trans hb2⟩
  case done =>
    rintro D xs W hD hcol ⟨⟨⟨v, hv, hrow, _⟩, hq⟩, hB⟩ hK
    have hDl : D < W.heap.size := (Array.getElem?_eq_some_iff.1 hK).1
    obtain ⟨ao, cp, rfl⟩ := own_slice hrow
    have HPk := Lib.hid (pack23 ao cp xs hcol.1 (by have := hcol.2.1; omega) W (SRow.of_own hrow).2)
    have HG := Lib.hid (fun l (hl : GC (s, c1, c2, c3) l) => col_gc (c := (s, c1, c2, c3)) hcol hl)
    have HFit := Lib.hid hcol.1
    have HRow := Lib.hid hrow
    have HK := Lib.hid hK
    have HB := Lib.hid hB
    have HQ := Lib.hid hq
    have hc := hv.cell
    have HV := Lib.hid hv
    unfold PkEnd at HPk
    clear hcol hrow hK hB hq hv hB0 bC bL bT hst hi hz0 hz1 hz2
    by_cases hp : pkB xs = true
    case neg =>
      have hp : pkB xs = false := by simpa using hp
      have HN := Lib.hid (so_no fun l hl => by have h1 := HG.out l hl; have h2 := hl.2.1; rw [← h1, hp] at h2; cases h2)
      rw [pkR_no hp, hp] at HPk
      clear hp
      gi_wp2_with fail
      refine ⟨trivial, ?_⟩
      refine (callsIn_wide.2 HPk.out).mono ?_
      rintro e w2 ⟨rfl, hb2⟩
      unfold chV zeroC
      have HK2 : Hid ((w2.alloc (.cells #[.string ⟨#[]⟩, .int .i64 0, .int .i64 0, .int .i64 0] 85)).heap[D]? = some (.deferred (some []))) := Lib.hid ((Below.heap_alloc _ _ _ (Nat.lt_of_lt_of_le hDl hb2.size)).trans ((hb2.block D hDl).trans HK.out))
      have HB2 := Lib.hid ((HB.out.trans (hb2.mono HB.out.size)).alloc (Nat.le_trans HB.out.size hb2.size) (.cells #[.string ⟨#[]⟩, .int .i64 0, .int .i64 0, .int .i64 0] 85))
      clear hb2 hc
      gi_wp2
      refine ⟨by simp, .inl ⟨_, _, rfl, run_takeDeferred HK2.out, ?_⟩⟩
      refine ⟨_, results_tmp2 rfl _ _ _, ⟨none, 0, ?_, ?_⟩, HB2.out.trans (belowK_b (w := w) (Nat.le_refl _) _ D _ _ (by omega) HK2.out rfl rfl)⟩
      · rw [HN.out.1, HN.out.2]; rfl
      · rw [HN.out.2]; exact World.ownsRow_nil _ _ _ _
    rw [pkR_yes hp, hp] at HPk
    have HP := Lib.hid hp
    clear hp
    by_cases he : pkC xs = (s, c1, c2, c3)
    · have HY := Lib.hid (so_yes ⟨HFit.out, HP.out, he⟩)
      rw [he] at HPk
      unfold chV at HPk
      simp only at HPk
      clear he
      gi_wp2_with fail
      refine ⟨trivial, ?_⟩
      refine (callsIn_wide.2 HPk.out).mono ?_
      rintro e w2 ⟨rfl, hb2⟩
      have HK2 : Hid ((w2.alloc (.cells #[.string s, .int .i64 c1, .int .i64 c2, .int .i64 c3] 85)).heap[D]? = some (.deferred (some []))) := Lib.hid ((Below.heap_alloc _ _ _ (Nat.lt_of_lt_of_le hDl hb2.size)).trans ((hb2.block D hDl).trans HK.out))
      have HB2 := Lib.hid ((HB.out.trans (hb2.mono HB.out.size)).alloc (Nat.le_trans HB.out.size hb2.size) (.cells #[.string s, .int .i64 c1, .int .i64 c2, .int .i64 c3] 85))
      have HR2 := Lib.hid ((own_below HRow.out hb2).alloc (.cells #[.string s, .int .i64 c1, .int .i64 c2, .int .i64 c3] 85))
      have hbA := hb2.alloc hb2.size (.cells #[.string s, .int .i64 c1, .int .i64 c2, .int .i64 c3] 85)
      obtain ⟨y0, y1, y2, y3, _⟩ := Bx.cells (w := w2.alloc (.cells #[.string s, .int .i64 c1, .int .i64 c2, .int .i64 c3] 85)) (g := w.heap.size) ⟨85, (hbA.block _ (Array.getElem?_eq_some_iff.1 HQ.out).1).trans HQ.out⟩
      have hc2 := (hbA.cell (p := ⟨w.heap.size + 1, 0, none⟩) HV.out.lt).trans hc
      clear hb2 hc hbA
      gi_wp2
      refine ⟨by simp, .inl ⟨_, _, rfl, run_takeDeferred HK2.out, ?_⟩⟩
      refine ⟨_, results_tmp2 rfl _ _ _, ⟨ao, cp, ?_, ?_⟩, HB2.out.trans (belowK_b (w := w) (Nat.le_refl _) _ D _ _ (by omega) HK2.out rfl rfl)⟩
      · rw [HY.out.1, HY.out.2]; rfl
      · rw [HY.out.2]; exact ownsRow_putObj HR2.out _ HK2.out rfl
    · have HN := Lib.hid (so_no fun l hl => by have h1 := HG.out l hl; subst h1; exact he hl.2.2)
      generalize pkC xs = q at he HPk
      obtain ⟨s', d1, d2, d3⟩ := q
      unfold chV at HPk
      simp only at HPk
      have hE := chk_ite he
      clear he
      gi_wp2_with fail
      refine ⟨trivial, ?_⟩
      refine (callsIn_wide.2 HPk.out).mono ?_
      rintro e w2 ⟨rfl, hb2⟩
      have HK2 : Hid ((w2.alloc (.cells #[.string s', .int .i64 d1, .int .i64 d2, .int .i64 d3] 85)).heap[D]? = some (.deferred (some []))) := Lib.hid ((Below.heap_alloc _ _ _ (Nat.lt_of_lt_of_le hDl hb2.size)).trans ((hb2.block D hDl).trans HK.out))
      have HB2 := Lib.hid ((HB.out.trans (hb2.mono HB.out.size)).alloc (Nat.le_trans HB.out.size hb2.size) (.cells #[.string s', .int .i64 d1, .int .i64 d2, .int .i64 d3] 85))
      have hbA := hb2.alloc hb2.size (.cells #[.string s', .int .i64 d1, .int .i64 d2, .int .i64 d3] 85)
      obtain ⟨y0, y1, y2, y3, _⟩ := Bx.cells (w := w2.alloc (.cells #[.string s', .int .i64 d1, .int .i64 d2, .int .i64 d3] 85)) (g := w.heap.size) ⟨85, (hbA.block _ (Array.getElem?_eq_some_iff.1 HQ.out).1).trans HQ.out⟩
      clear hb2 hc hbA
      gi_wp2
      refine ⟨by simp, .inl ⟨_, _, rfl, run_takeDeferred HK2.out, ?_⟩⟩
      refine ⟨_, results_tmp2 rfl _ _ _, ⟨none, 0, ?_, ?_⟩, HB2.out.trans (belowK_b (w := w) (Nat.le_refl _) _ D _ _ (by omega) HK2.out rfl rfl)⟩
      · rw [HN.out.1, HN.out.2]; rfl
      · rw [HN.out.2]; exact World.ownsRow_nil _ _ _ _
  case stop =>
    rintro D c pre W _ _ h _
    exact h.elim
end Go.Proofs.Yteiefngamccapaa
