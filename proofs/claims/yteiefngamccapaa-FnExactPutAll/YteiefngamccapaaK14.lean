/- Contract of SamplesOf in the program, over this seat's translation: the samples that a chunk holds, or that it holds none. -/
import Derived.Test.YteiefngamccapaaK9
import Derived.Test.YteiefngamccapaaJx43
import Derived.Laws.CopyOwn
namespace Go.Proofs.Yteiefngamccapaa
open Go.RowKit Go.Shelf
attribute [local go_sem] Oper.semAt_some

theorem col_gc {c : Chk} {xs l : List Smp} (h : Col c.1.data.toList xs) (hl : GC c l) : xs = l := by
  by_cases hc : c = zeroC
  · subst hc
    rw [GC.zero hl]
    exact h.2.2.2 rfl
  · exact h.2.2.1 l hl.1 (by have := hl.len; omega) (hl.bytes hc)
theorem kp_append {W w1 : World} {n₀ B k : Nat} {v v' : Value} {xs : List Value} {tmp : Obj} (hv : Boxed W B 50 v) (hrow : W.ownsRow n₀ 42 2 v k xs) (hgrow : (W.alloc tmp).grownBy w1 v.ownBlock) : KpT W (w1.setCell ⟨B, 0, none⟩ v') := by
  intro g cs t h1 h2 h
  have hlt : g < W.heap.size := (Array.getElem?_eq_some_iff.1 h).1
  have hgB : g ≠ B := by
    intro e
    subst e
    have := (show W.heap[g]? = _ from hv).symm.trans h
    simp at this
    exact h1 this.2.symm
  rw [Below.heap_setCell _ _ _ g hgB, hgrow.block g (by simp; omega) (fun e => ?_), Below.heap_alloc _ _ g hlt]
  · exact h
  · rcases hrow.2 with ⟨rfl, _⟩ | ⟨q, cap, cur, rfl, _, hgb, _⟩
    · simp [Value.ownBlock] at e
    · obtain rfl : g = q := by simpa [Value.ownBlock] using e
      have := hgb.symm.trans h
      simp at this
      exact h2 this.2.symm
theorem kp_alloc (W : World) (o : Obj) : KpT W (W.alloc o) := fun g _ _ _ _ h => (Below.heap_alloc _ _ g (Array.getElem?_eq_some_iff.1 h).1).trans h
/-- The chunk's own box. -/
def Bq (W : World) (g : Nat) (s : ByteArray) (a b c : Int) : Prop := W.heap[g]? = some (.cells #[.string s, .int .i64 a, .int .i64 b, .int .i64 c] 85)
theorem bq_own {β : Type} (B g : Nat) (s : ByteArray) (a b c : Int) : OwnFrom B (fun (_ : β) W => Bq W g s a b c) := fun _ X Y row hs hg hr =>
  (hg.block g (Array.getElem?_eq_some_iff.1 hs).1 (fun e => by obtain ⟨_, o, ho, hc⟩ := hr g e.symm; rw [show X.heap[g]? = _ from hs] at ho; cases ho; cases hc)).trans hs
/-- The loop variable's box. -/
def Bs (W : World) (g : Nat) (x : Smp) : Prop := W.heap[g]? = some (.cells #[.int .i64 x.1, .float .f64 x.2] 42)
theorem bs_own {β : Type} (B g : Nat) (x : Smp) : OwnFrom B (fun (_ : β) W => Bs W g x) := fun _ X Y row hs hg hr =>
  (hg.block g (Array.getElem?_eq_some_iff.1 hs).1 (fun e => by obtain ⟨_, o, ho, hc⟩ := hr g e.symm; rw [show X.heap[g]? = _ from hs] at ho; cases ho; cases hc)).trans hs

set_option maxRecDepth 100000 in
set_option maxHeartbeats 4000000 in
theorem of27 (s : ByteArray) (c1 c2 c3 : Int) (hs : s.size ≤ 1048576) (w : World) : Calls Try.prog 76 #[.agg #[.string s, .int .i64 c1, .int .i64 c2, .int .i64 c3]] w (SoEnd (s, c1, c2, c3) w) := by
  obtain ⟨i0, hi, hz0, hz1, hz2⟩ := info_parts Try.info42
  have hst := @run_store_float Try.prog
  refine (callsIn_wide (n := 3)).1 ?_
  refine callsIn_of_wp_marks Try.func76 rfl trivial ?_ rfl
  simp only [Try.ntmps76, List.size_toArray, List.length_cons, List.length_nil, Nat.reduceAdd, Nat.reduceSub, Array.replicate_succ, Array.replicate_zero, List.push_toArray, List.append_toArray, List.nil_append, List.cons_append]
  gi_wp2_with fail
  refine ⟨trivial, ?_⟩
  refine (callsIn_wide.2 (in78 s _)).mono ?_
  rintro e w' ⟨rfl, rfl⟩
  gi_wp2_with fail
  have bC : Bq (((w.alloc (.cells #[.string s, .int .i64 c1, .int .i64 c2, .int .i64 c3] 85)).alloc (.cells #[.slice none 0 0] 50)).alloc (.cells #[.string s] 9)) w.heap.size s c1 c2 c3 :=
    (Below.heap_alloc _ _ _ (by simp; omega)).trans ((Below.heap_alloc _ _ _ (by simp)).trans (World.alloc_heap_new w _))
  have bL := (Boxed.new (w.alloc (.cells #[.string s, .int .i64 c1, .int .i64 c2, .int .i64 c3] 85)) 50 (.slice none 0 0)).alloc (.cells #[.string s] 9)
  have bT := Boxed.new ((w.alloc (.cells #[.string s, .int .i64 c1, .int .i64 c2, .int .i64 c3] 85)).alloc (.cells #[.slice none 0 0] 50)) 9 (.string s)
  simp only [World.size_alloc] at bL bT
  have hB0 : Below w.heap.size w (((w.alloc (.cells #[.string s, .int .i64 c1, .int .i64 c2, .int .i64 c3] 85)).alloc (.cells #[.slice none 0 0] 50)).alloc (.cells #[.string s] 9)) := (((Below.refl _ w).alloc (Nat.le_refl _) _).alloc (by simp) _).alloc (by simp; omega) _
  have hsz : (((w.alloc (.cells #[.string s, .int .i64 c1, .int .i64 c2, .int .i64 c3] 85)).alloc (.cells #[.slice none 0 0] 50)).alloc (.cells #[.string s] 9)).heap.size = w.heap.size + 3 := by simp
  obtain ⟨W0, hW0⟩ : ∃ W0, ((w.alloc (.cells #[.string s, .int .i64 c1, .int .i64 c2, .int .i64 c3] 85)).alloc (.cells #[.slice none 0 0] 50)).alloc (.cells #[.string s] 9) = W0 := ⟨_, rfl⟩
  rw [hW0] at bC bL bT hB0 hsz ⊢
  clear hW0
  refine wpIn_rangeFunc_ownH rfl (by omega) (gf := 111) (lb := #[.pointer (some ⟨w.heap.size + 1 + 1, 0, none⟩)]) rfl trivial (enters_of Try.func111 (by kernel_rfl) rfl)
    (iter_stops 2 (by omega) (w.heap.size + 1 + 1) s hs W0 bT) KpT.trans (fun W l o o' _ h1 h2 _ => KpT.put W l o o' h1 h2) (Below.refl _ _) (fun _ => rfl)
    (fun pre W => ((∃ v, Boxed W (w.heap.size + 1) 50 v ∧ W.ownsRow w.heap.size 42 2 v pre.length (cellsS pre) ∧ True) ∧ Bq W w.heap.size s c1 c2 c3) ∧ Below w.heap.size w W)
    (fun _ _ _ => False)
    (OwnFrom.and (OwnFrom.and (Own.from (holdsRow_own w.heap.size (w.heap.size + 1) 50 42 2 (fun pre => pre.length) cellsS (fun _ _ => True)) _) (bq_own _ _ _ _ _ _)) (ownFrom_below (Nat.le_refl _) (by omega)))
    (fun _ _ _ _ _ hs _ _ => hs)
    ⟨⟨⟨_, bL, World.ownsRow_nil _ _ _ _, trivial⟩, bC⟩, hB0⟩
    (fun x a' W => ∃ g, Bs W g x ∧ a' = { tmps := #[.agg #[.string s, .int .i64 c1, .int .i64 c2, .int .i64 c3], .pointer (some ⟨w.heap.size, 0, none⟩), .slice none 0 0, .bool false, .pointer (some ⟨w.heap.size + 1, 0, none⟩), .pointer (some ⟨g, 0, none⟩), undef, undef, .pointer (some ⟨w.heap.size, 0, none⟩), .string s, .func (.func 111) #[] #[.pointer (some ⟨w.heap.size + 1 + 1, 0, none⟩)], .agg #[.int .i64 x.1, .float .f64 x.2], undef, undef, undef, undef, undef, undef, undef, undef, undef, undef, undef, undef, undef, undef, undef, undef, undef], defers := [] })
    (fun x a' _ X Y row hs hg hr => by
      obtain ⟨g, hb, e⟩ := hs
      exact ⟨g, bs_own _ g x () X Y row hb hg hr, e⟩) ?assign ?body ?done ?stop
  case assign =>
    rintro l pre x W K ⟨⟨⟨v, hv, hrow, _⟩, hq⟩, hB⟩ hK
    gi_wp2
    exact hK _ _ ((KeepsOthers.alloc _ _).from _) (kp_alloc _ _) ⟨⟨⟨v, hv.alloc _, hrow.alloc _, trivial⟩, (Below.heap_alloc _ _ _ (Array.getElem?_eq_some_iff.1 hq).1).trans hq⟩, hB.alloc hB.size _⟩ ⟨W.heap.size, World.alloc_heap_new W _, rfl⟩
  case body =>
    rintro l pre x a' W hl ⟨r, hr⟩ ⟨⟨⟨v, hv, hrow, _⟩, hq⟩, hB⟩ ⟨g, hbs, rfl⟩ hlt
    have hc := hv.cell
    have hs0 : W.cell? ⟨g, 0, none⟩ = some (.int .i64 x.1) := by simp [World.cell?, show W.heap[g]? = _ from hbs]
    have hs1 : W.cell? ⟨g, 1, none⟩ = some (.float .f64 x.2) := by simp [World.cell?, show W.heap[g]? = _ from hbs]
    have hwsz := hB.size
    gi_wp2_with (gi_at_builtin; refine wpListIn_append_own _ rfl _ _ 50 rfl w.heap.size 42 i0 (.agg #[.int .i64 0, .float .f64 0]) 2 16 Try.underlying50 hi hz0 hz1 hz2 rfl (by decide) _ _ _ rfl (hrow.alloc _) ⟨W.heap.size, 0, none⟩ 1 1 [.int .i64 x.1, .float .f64 x.2] rfl rfl new_two (by simp [Value.oneCell']) (by unfold maxLen; omega) (by omega) (by simp; omega) ?_; intro v' w1 hown' hgrow _; obtain ⟨g', cap', rfl⟩ := ownsRow_succ hown'; obtain ⟨hv1, hv2, hr2, hk2, hb2⟩ := hv.appended (by decide) hrow hB.size (by omega) hown' hgrow; have hkp := kp_append (v' := .slice (some ⟨g', 0, none⟩) (pre.length + 1) cap') hv hrow hgrow; have hc1 := hv1.cell; have hf1 := hv1.frozen)
    exact ⟨hk2.from _, hkp, ⟨⟨_, hv2, by rw [cellsS_append, List.length_append]; exact hr2, trivial⟩, hkp _ _ _ (by decide) (by decide) hq⟩, hB.trans hb2⟩
  case done =>
    rintro D xs W hD hcol ⟨⟨⟨v, hv, hrow, _⟩, hq⟩, hB⟩ hK
    have hDl : D < W.heap.size := (Array.getElem?_eq_some_iff.1 hK).1
    obtain ⟨ao, cp, rfl⟩ := own_slice hrow
    have HPk := Lib.hid (pack23 ao cp xs hcol.1 (by have := hcol.2.1; omega) W (SRow.of_own hrow).2)
    have HG := Lib.hid (fun l (hl : GC (s, c1, c2, c3) l) => col_gc (c := (s, c1, c2, c3)) hcol hl)
    have HFit := Lib.hid hcol.1
    have HRow := Lib.hid hrow
    have HK := Lib.hid hK
    have HB := Lib.hid hB
    have HQ := Lib.hid hq
    have hc := hv.cell
    have HV := Lib.hid hv
    unfold PkEnd at HPk
    clear hcol hrow hK hB hq hv hB0 bC bL bT hst hi hz0 hz1 hz2
    by_cases hp : pkB xs = true
    case neg =>
      have hp : pkB xs = false := by simpa using hp
      have HN := Lib.hid (so_no fun l hl => by have h1 := HG.out l hl; have h2 := hl.2.1; rw [← h1, hp] at h2; cases h2)
      rw [pkR_no hp, hp] at HPk
      clear hp
      gi_wp2_with fail
      refine ⟨trivial, ?_⟩
      refine (callsIn_wide.2 HPk.out).mono ?_
      rintro e w2 ⟨rfl, hb2⟩
      unfold chV zeroC
      have HK2 : Hid ((w2.alloc (.cells #[.string ⟨#[]⟩, .int .i64 0, .int .i64 0, .int .i64 0] 85)).heap[D]? = some (.deferred (some []))) := Lib.hid ((Below.heap_alloc _ _ _ (Nat.lt_of_lt_of_le hDl hb2.size)).trans ((hb2.block D hDl).trans HK.out))
      have HB2 := Lib.hid ((HB.out.trans (hb2.mono HB.out.size)).alloc (Nat.le_trans HB.out.size hb2.size) (.cells #[.string ⟨#[]⟩, .int .i64 0, .int .i64 0, .int .i64 0] 85))
      clear hb2 hc
      gi_wp2
      refine ⟨by simp, .inl ⟨_, _, rfl, run_takeDeferred HK2.out, ?_⟩⟩
      refine ⟨_, results_tmp2 rfl _ _ _, ⟨none, 0, ?_, ?_⟩, HB2.out.trans (belowK_b (w := w) (Nat.le_refl _) _ D _ _ (by omega) HK2.out rfl rfl)⟩
      · rw [HN.out.1, HN.out.2]; rfl
      · rw [HN.out.2]; exact World.ownsRow_nil _ _ _ _
    rw [pkR_yes hp, hp] at HPk
    have HP := Lib.hid hp
    clear hp
    by_cases he : pkC xs = (s, c1, c2, c3)
    · have HY := Lib.hid (so_yes ⟨HFit.out, HP.out, he⟩)
      rw [he] at HPk
      unfold chV at HPk
      simp only at HPk
      clear he
      gi_wp2_with fail
      refine ⟨trivial, ?_⟩
      refine (callsIn_wide.2 HPk.out).mono ?_
      rintro e w2 ⟨rfl, hb2⟩
      have HK2 : Hid ((w2.alloc (.cells #[.string s, .int .i64 c1, .int .i64 c2, .int .i64 c3] 85)).heap[D]? = some (.deferred (some []))) := Lib.hid ((Below.heap_alloc _ _ _ (Nat.lt_of_lt_of_le hDl hb2.size)).trans ((hb2.block D hDl).trans HK.out))
      have HB2 := Lib.hid ((HB.out.trans (hb2.mono HB.out.size)).alloc (Nat.le_trans HB.out.size hb2.size) (.cells #[.string s, .int .i64 c1, .int .i64 c2, .int .i64 c3] 85))
      have HR2 := Lib.hid ((own_below HRow.out hb2).alloc (.cells #[.string s, .int .i64 c1, .int .i64 c2, .int .i64 c3] 85))
      have hbA := hb2.alloc hb2.size (.cells #[.string s, .int .i64 c1, .int .i64 c2, .int .i64 c3] 85)
      obtain ⟨y0, y1, y2, y3, _⟩ := Bx.cells (w := w2.alloc (.cells #[.string s, .int .i64 c1, .int .i64 c2, .int .i64 c3] 85)) (g := w.heap.size) ⟨85, (hbA.block _ (Array.getElem?_eq_some_iff.1 HQ.out).1).trans HQ.out⟩
      have hc2 := (hbA.cell (p := ⟨w.heap.size + 1, 0, none⟩) HV.out.lt).trans hc
      clear hb2 hc hbA
      gi_wp2
      refine ⟨by simp, .inl ⟨_, _, rfl, run_takeDeferred HK2.out, ?_⟩⟩
      refine ⟨_, results_tmp2 rfl _ _ _, ⟨ao, cp, ?_, ?_⟩, HB2.out.trans (belowK_b (w := w) (Nat.le_refl _) _ D _ _ (by omega) HK2.out rfl rfl)⟩
      · rw [HY.out.1, HY.out.2]; rfl
      · rw [HY.out.2]; exact ownsRow_putObj HR2.out _ HK2.out rfl
    · have HN := Lib.hid (so_no fun l hl => by have h1 := HG.out l hl; subst h1; exact he hl.2.2)
      generalize pkC xs = q at he HPk
      obtain ⟨s', d1, d2, d3⟩ := q
      unfold chV at HPk
      simp only at HPk
      have hE := chk_ite he
      clear he
      gi_wp2_with fail
      refine ⟨trivial, ?_⟩
      refine (callsIn_wide.2 HPk.out).mono ?_
      rintro e w2 ⟨rfl, hb2⟩
      have HK2 : Hid ((w2.alloc (.cells #[.string s', .int .i64 d1, .int .i64 d2, .int .i64 d3] 85)).heap[D]? = some (.deferred (some []))) := Lib.hid ((Below.heap_alloc _ _ _ (Nat.lt_of_lt_of_le hDl hb2.size)).trans ((hb2.block D hDl).trans HK.out))
      have HB2 := Lib.hid ((HB.out.trans (hb2.mono HB.out.size)).alloc (Nat.le_trans HB.out.size hb2.size) (.cells #[.string s', .int .i64 d1, .int .i64 d2, .int .i64 d3] 85))
      have hbA := hb2.alloc hb2.size (.cells #[.string s', .int .i64 d1, .int .i64 d2, .int .i64 d3] 85)
      obtain ⟨y0, y1, y2, y3, _⟩ := Bx.cells (w := w2.alloc (.cells #[.string s', .int .i64 d1, .int .i64 d2, .int .i64 d3] 85)) (g := w.heap.size) ⟨85, (hbA.block _ (Array.getElem?_eq_some_iff.1 HQ.out).1).trans HQ.out⟩
      clear hb2 hc hbA
      gi_wp2
      refine ⟨by simp, .inl ⟨_, _, rfl, run_takeDeferred HK2.out, ?_⟩⟩
      refine ⟨_, results_tmp2 rfl _ _ _, ⟨none, 0, ?_, ?_⟩, HB2.out.trans (belowK_b (w := w) (Nat.le_refl _) _ D _ _ (by omega) HK2.out rfl rfl)⟩
      · rw [HN.out.1, HN.out.2]; rfl
      · rw [HN.out.2]; exact World.ownsRow_nil _ _ _ _
  case stop =>
    rintro D c pre W _ _ h _
    exact h.elim
end Go.Proofs.Yteiefngamccapaa
namespace Go.Proofs.Yteiefngamccapaa
open Go.RowKit Go.Deep

/-- How many samples lie ahead of a time. -/
def cutK (l : List Smp) (t : Int) : Nat := (l.takeWhile fun x => decide (x.1 < t)).length
def CK (l : List Smp) (t : Int) (k : Nat) : Prop := k ≤ l.length ∧ ∀ i, i < k → tF l i < t
theorem ck_zero (l : List Smp) (t : Int) : CK l t 0 := ⟨Nat.zero_le _, fun i h => absurd h (by omega)⟩
theorem ck_succ {l : List Smp} {t : Int} {k : Nat} (h : CK l t k) (hk : k < l.length) (ht : tF l k < t) : CK l t (k + 1) := ⟨hk, fun i hi => by
  by_cases e : i = k
  · subst e; exact ht
  · exact h.2 i (by omega)⟩
theorem tF_cons (x : Smp) (l : List Smp) (i : Nat) : tF (x :: l) (i + 1) = tF l i := by simp [tF]
theorem ck_is : ∀ {l : List Smp} {t : Int} {k : Nat}, CK l t k → (k = l.length ∨ t ≤ tF l k) → cutK l t = k
  | [], _, k, h, _ => by have := h.1; simp at this; subst this; rfl
  | x :: l, t, 0, _, hs => by
    rcases hs with h | h
    · simp at h
    · unfold cutK
      rw [List.takeWhile_cons_of_neg (by simpa [tF] using h)]; rfl
  | x :: l, t, k + 1, h, hs => by
    have h0 : x.1 < t := by have := h.2 0 (by omega); simpa [tF] using this
    have ih := ck_is (l := l) (t := t) (k := k) ⟨by have := h.1; simp at this; omega, fun i hi => by have := h.2 (i + 1) (by omega); rwa [tF_cons] at this⟩ (by
      rcases hs with hs | hs
      · exact .inl (by simpa using hs)
      · rw [tF_cons] at hs; exact .inr hs)
    unfold cutK at ih ⊢
    rw [List.takeWhile_cons_of_pos (by simpa using h0), List.length_cons, ih]
theorem good_take {l : List Smp} (h : goodS l = true) (k : Nat) : goodS (l.take k) = true := by
  rw [goodS_iff] at h ⊢
  intro i hi
  rw [List.length_take] at hi
  refine ⟨by rw [List.getElem_take]; exact (h i (by omega)).1, fun hj => ?_⟩
  rw [List.length_take] at hj
  rw [List.getElem_take, List.getElem_take]
  exact (h i (by omega)).2 (by omega)
theorem good_drop {l : List Smp} (h : goodS l = true) (k : Nat) : goodS (l.drop k) = true := by
  rw [goodS_iff] at h ⊢
  intro i hi
  rw [List.length_drop] at hi
  refine ⟨by rw [List.getElem_drop]; exact (h (k + i) (by omega)).1, fun hj => ?_⟩
  rw [List.length_drop] at hj
  rw [List.getElem_drop, List.getElem_drop]
  exact (h (k + i) (by omega)).2 (by omega)
theorem pkB_take {l : List Smp} (h : pkB l = true) (k : Nat) : pkB (l.take k) = true := pkB_good (by have := (pkB_fit h).1; rw [List.length_take]; omega) (good_take (pkB_fit h).2 k)
theorem pkB_drop {l : List Smp} (h : pkB l = true) (k : Nat) : pkB (l.drop k) = true := pkB_good (by have := (pkB_fit h).1; rw [List.length_drop]; omega) (good_drop (pkB_fit h).2 k)
/-- The two chunks of a cut. -/
noncomputable def ctA (c : Chk) (t : Int) : Chk := pkC ((soL c).take (cutK (soL c) t))
noncomputable def ctB (c : Chk) (t : Int) : Chk := pkC ((soL c).drop (cutK (soL c) t))
def CtEnd (c : Chk) (t : Int) (w : World) (e : Ending) (w' : World) : Prop := e = .returned (.tuple #[chV (ctA c t), chV (ctB c t), .bool (soB c)]) ∧ Below w.heap.size w w'
theorem ct_no {c : Chk} {t : Int} (h : soB c = false) : Ending.returned (.tuple #[.agg #[zS, zI, zI, zI], .agg #[zS, zI, zI, zI], .bool false]) = .returned (.tuple #[chV (ctA c t), chV (ctB c t), .bool (soB c)]) := by
  unfold ctA ctB
  rw [so_not h, h]; rfl
theorem ct_yes {c : Chk} {t : Int} {k : Nat} {p q : Chk} (h : soB c = true) (hk : cutK (soL c) t = k) (hp : p = pkC ((soL c).take k)) (hq : q = pkC ((soL c).drop k)) : Ending.returned (.tuple #[chV p, chV q, .bool true]) = .returned (.tuple #[chV (ctA c t), chV (ctB c t), .bool (soB c)]) := by
  unfold ctA ctB
  rw [hk, h, hp, hq]

theorem elem32 : Try.prog.underlying 50 = some (.slice (Try.prog.elem 50)) := by kernel_rfl
theorem size32 (W : World) : (sizeOf (Try.prog.elem 50)).run Try.prog W = .ok 2 W := by
  rw [show Try.prog.elem 50 = 42 by kernel_rfl]
  simp [sizeOf, go_sem]
  kernel_rfl
theorem SRow.take {w : World} {B : Nat} {ao : Option Addr} {l : List Smp} (h : SRow w B ao l) (k : Nat) : SRow w B ao (l.take k) := fun hl => by
  rw [List.length_take] at hl
  obtain ⟨b, off, e, hb, hc⟩ := h (by omega)
  refine ⟨b, off, e, hb, fun j hj => ?_⟩
  rw [List.length_take] at hj
  rw [List.getElem_take]
  exact hc j (by omega)
theorem SRow.drop {w : World} {B : Nat} {b off : Nat} {l : List Smp} (h : SRow w B (some ⟨b, off, none⟩) l) (k : Nat) : SRow w B (some ⟨b, off + k * 2, none⟩) (l.drop k) := fun hl => by
  rw [List.length_drop] at hl
  obtain ⟨b', off', e, hb, hc⟩ := h (by omega)
  injection e with e
  injection e with e1 e2
  subst e1 e2
  refine ⟨b, off + k * 2, rfl, hb, fun j hj => ?_⟩
  rw [List.length_drop] at hj
  rw [List.getElem_drop]
  have := hc (k + j) (by omega)
  rw [Nat.add_mul, ← Nat.add_assoc] at this
  exact this
/-- The two slices of a row of samples. -/
theorem cut_slices (ao : Option Addr) (l : List Smp) (k cp : Nat) (hk : k ≤ l.length) (hc : l.length ≤ cp) : ∃ ao1 ao2 : Option Addr,
    (∀ W, (Instr.slice 50 (.slice ao l.length cp) none (some (.int .i64 (k : Int))) none).run Try.prog W = .ok (.slice ao1 k cp) W) ∧
    (∀ W, (Instr.slice 50 (.slice ao l.length cp) (some (.int .i64 (k : Int))) none none).run Try.prog W = .ok (.slice ao2 (l.length - k) (cp - k)) W) ∧
    ∀ W B, SRow W B ao l → SRow W B ao1 (l.take k) ∧ SRow W B ao2 (l.drop k) := by
  refine ⟨if cp = 0 then ao else ao.map (·.add (0 * 2)), if cp = k then ao else ao.map (·.add (k * 2)), fun W => ?_, fun W => ?_, fun W B h => ⟨?_, ?_⟩⟩
  · rw [run_slice_h W 50 ao l.length cp elem32 .i64 k (by omega) (by omega), size32]
    simp [Result.andThen, sliced]
  · rw [run_slice_l W 50 ao l.length cp elem32 .i64 k (by omega) (by omega), size32]
    simp [Result.andThen, sliced]
  · have e : (if cp = 0 then ao else ao.map (·.add (0 * 2))) = ao := by
      split
      · rfl
      · cases ao <;> simp [Addr.add]
    rw [e]
    exact h.take k
  · intro hl
    have hl' := hl
    rw [List.length_drop] at hl'
    obtain ⟨b, off, e, _⟩ := h (by omega)
    subst e
    rw [if_neg (by omega)]
    have : (Option.map (·.add (k * 2)) (some ⟨b, off, none⟩ : Option Addr)) = some ⟨b, off + k * 2, none⟩ := by simp [Go.WideShapes.add_plain]
    rw [this]
    exact h.drop k hl
theorem below4 {B g : Nat} {w w' : World} {a b c d : Value} (h : Below B w w') (hg : B ≤ g) : Below B w ((((w'.setCell ⟨g, 0, none⟩ a).setCell ⟨g, 1, none⟩ b).setCell ⟨g, 2, none⟩ c).setCell ⟨g, 3, none⟩ d) := (((h.setCell hg _).setCell hg _).setCell hg _).setCell hg _
theorem Bx.far4 {w : World} {g h : Nat} {a b c d a1 a2 a3 a4 : Value} (hx : Bx w h a b c d) (hne : g ≠ h) : Bx ((((w.setCell ⟨g, 0, none⟩ a1).setCell ⟨g, 1, none⟩ a2).setCell ⟨g, 2, none⟩ a3).setCell ⟨g, 3, none⟩ a4) h a b c d := by
  obtain ⟨t, hx⟩ := hx
  refine ⟨t, ?_⟩
  rw [Below.heap_setCell _ _ _ h (by exact Ne.symm hne), Below.heap_setCell _ _ _ h (by exact Ne.symm hne), Below.heap_setCell _ _ _ h (by exact Ne.symm hne), Below.heap_setCell _ _ _ h (by exact Ne.symm hne)]
  exact hx
theorem set_at {w : World} {g i : Nat} {cs : Array Value} {t : TypeId} {v : Value} (h : w.heap[g]? = some (.cells cs t)) : (w.setCell ⟨g, i, none⟩ v).heap[g]? = some (.cells (cs.setIfInBounds i v) t) := by
  simp [World.setCell, Array.getElem?_modify, h]
theorem Bx.set4 {w : World} {g : Nat} {a b c d a' b' c' d' : Value} (hx : Bx w g a b c d) : Bx ((((w.setCell ⟨g, 0, none⟩ a').setCell ⟨g, 1, none⟩ b').setCell ⟨g, 2, none⟩ c').setCell ⟨g, 3, none⟩ d') g a' b' c' d' := by
  obtain ⟨t, hx⟩ := hx
  refine ⟨t, ?_⟩
  exact set_at (i := 3) (v := d') (set_at (i := 2) (v := c') (set_at (i := 1) (v := b') (set_at (i := 0) (v := a') hx)))
theorem Bx.alloc {w : World} {h : Nat} {a b c d : Value} (hx : Bx w h a b c d) (o : Obj) : Bx (w.alloc o) h a b c d := hx.below ((Below.refl _ _).alloc (Nat.le_refl _) o)
end Go.Proofs.Yteiefngamccapaa
namespace Go.Proofs.Yteiefngamccapaa
open Go.RowKit Go.Deep

theorem run_copy2 {P : Program} (w : World) (dT sT ty elem : TypeId) (g o dLen dCap : Nat) (a : Addr) (sLen sCap : Nat) (cur : Array Value) (t : TypeId) (cs : List Value) (m : Nat)
    (hu : P.underlying dT = some (.slice elem)) (hs : (P.info? elem).map (·.size) = some 2) (hg : w.heap[g]? = some (.cells cur t (0, 0))) (hm : Nat.min sLen dLen = m) (hn : cs.length = m * 2)
    (hsrc : ∀ j v, cs[j]? = some v → w.cell? (a.add j) = some v) (hfit : o + cs.length ≤ cur.size) (h1 : ∀ v ∈ cs, v.oneCell' = true) :
    (Builtin.copy_ #[dT, sT] ty #[.slice (some ⟨g, o, none⟩) dLen dCap, .slice (some a) sLen sCap]).run P w = .ok (goInt m) (w.setRow g (splice cur.toList o cs).toArray) := by
  have hl := run_loadCells_list (P := P) w a cs hsrc
  have hst := run_storeCells_at P g o t cs 0 cur w hg (by simpa using hfit) h1
  obtain ⟨i, hq, hi⟩ : ∃ i, P.info? elem = some i ∧ i.size = 2 := by cases hq : P.info? elem <;> simp_all
  rw [hn] at hl
  simp [Builtin.copy_, run_underlying hu, Builtin.lenOf, Builtin.firstCells, sizeOf, typeInfo, hq, hi, hm, hl, hst, splice]
theorem run_copy2_none {P : Program} (w : World) (dT sT ty elem : TypeId) (d a : Option Addr) (dLen dCap sLen sCap : Nat) (hu : P.underlying dT = some (.slice elem)) (hs : (P.info? elem).map (·.size) = some 2) (hm : Nat.min sLen dLen = 0) :
    (Builtin.copy_ #[dT, sT] ty #[.slice d dLen dCap, .slice a sLen sCap]).run P w = .ok (goInt 0) w := by
  obtain ⟨i, hq, hi⟩ : ∃ i, P.info? elem = some i ∧ i.size = 2 := by cases hq : P.info? elem <;> simp_all
  have hl : ∀ x : Addr, (loadCells x 0).run P w = .ok #[] w := fun x => by simpa using run_loadCells_list (P := P) w x [] (by simp)
  cases d <;> cases a <;> simp [Builtin.copy_, run_underlying hu, Builtin.lenOf, Builtin.firstCells, sizeOf, typeInfo, hq, hm, storeCells, hl]
theorem wp_copy2 {P : Program} {w : World} {ops : Array Oper} {rest : List Oper} {o : Oper} {a : Act} {Q : Exit → Act → World → Prop} (hgd : o.guard = none) (d s : Operand) (dT sT : TypeId)
    (ho : o.op = .call { callee := .builtin .copy, args := #[d, s], argTypes := #[dT, sT] }) (elem : TypeId) (hu : P.underlying dT = some (.slice elem)) (hsz : (P.info? elem).map (·.size) = some 2)
    (dp sp : Option Addr) (dLen dCap sLen sCap : Nat) (hd : a.eval d = .slice dp dLen dCap) (hs : a.eval s = .slice sp sLen sCap) (m : Nat) (hm : Nat.min sLen dLen = m)
    (g off : Nat) (cur : List Value) (t : TypeId) (hg : w.heap[g]? = some (.cells cur.toArray t (0, 0))) (cs : List Value) (hn : cs.length = m * 2)
    (hpos : 0 < m → dp = some ⟨g, off, none⟩ ∧ ∃ ad, sp = some ad ∧ ∀ j v, cs[j]? = some v → w.cell? (ad.add j) = some v) (hfit : off + cs.length ≤ cur.length) (h1 : ∀ v ∈ cs, v.oneCell' = true)
    (h : ∀ w', w'.heap[g]? = some (.cells (splice cur off cs).toArray t (0, 0)) → (∀ B w0, Below B w0 w → B ≤ g → Below B w0 w') → wpList P ops Q rest (a.put o.dst (goInt m)) w') :
    wpList P ops Q (o :: rest) a w := by
  have key : ∃ w', (Builtin.copy_ #[dT, sT] o.type #[.slice dp dLen dCap, .slice sp sLen sCap]).run P w = .ok (goInt m) w' ∧ w'.heap[g]? = some (.cells (splice cur off cs).toArray t (0, 0)) ∧ ∀ B w0, Below B w0 w → B ≤ g → Below B w0 w' := by
    by_cases h0 : m = 0
    · subst h0
      obtain rfl : cs = [] := List.eq_nil_of_length_eq_zero (by simpa using hn)
      exact ⟨w, run_copy2_none w dT sT o.type elem dp sp dLen dCap sLen sCap hu hsz hm, by simpa [splice] using hg, fun _ _ hb _ => hb⟩
    · obtain ⟨rfl, ad, rfl, hsrc⟩ := hpos (by omega)
      refine ⟨_, run_copy2 w dT sT o.type elem g off dLen dCap ad sLen sCap cur.toArray t cs m hu hsz hg hm hn hsrc (by simpa using hfit) h1, ?_, fun B w0 hb hB => below_setRow hb hB _⟩
      exact setRow_heap _ _ _ _ _ _ hg
  obtain ⟨w', hrun, h2, h3⟩ := key
  refine wpList_plain hgd fun K hK => ?_
  unfold Oper.wp
  simp [execOp, ho, resolve, invoke, builtin, hd, hs, hrun, Result.andThen]
  exact hK _ _ (h w' h2 h3)

theorem SRow.src {w : World} {B : Nat} {ao : Option Addr} {l : List Smp} (h : SRow w B ao l) (hl : 0 < l.length) : ∃ ad, ao = some ad ∧ ad.block < B ∧ ∀ j v, (cellsS l)[j]? = some v → w.cell? (ad.add j) = some v := by
  obtain ⟨b, off, e, hb, hc⟩ := h hl
  refine ⟨_, e, hb, fun j v hv => ?_⟩
  have hj : j < l.length * 2 := by
    have := (List.getElem?_eq_some_iff.1 hv).1
    rwa [cellsS_length] at this
  rw [Go.WideShapes.add_plain]
  have hk : j / 2 < l.length := by omega
  rcases Nat.mod_two_eq_zero_or_one j with h0 | h0
  · have e1 : j = j / 2 * 2 := by omega
    rw [e1] at hv ⊢
    rw [cellsS_t hk] at hv
    rw [(hc _ hk).1]; exact hv
  · have e1 : j = j / 2 * 2 + 1 := by omega
    rw [e1] at hv ⊢
    rw [cellsS_v hk] at hv
    rw [← Nat.add_assoc, (hc _ hk).2]; exact hv
theorem SRow.of_block {w : World} {g : Nat} {l : List Smp} (h : w.heap[g]? = some (.cells (cellsS l).toArray 42 (0, 0))) : SRow w w.heap.size (some ⟨g, 0, none⟩) l := fun _ => by
  refine ⟨g, 0, rfl, (Array.getElem?_eq_some_iff.1 h).1, fun k hk => ⟨?_, ?_⟩⟩
  · simp [World.cell?, h, cellsS_t hk]
  · simp [World.cell?, h, cellsS_v hk]
theorem splice_two {L X Y : List Value} (h : L.length = X.length + Y.length) : splice (splice L 0 X) X.length Y = X ++ Y := by
  unfold splice
  simp only [List.take_zero, List.nil_append, Nat.zero_add]
  have e1 : List.drop (X.length + Y.length) (X ++ List.drop X.length L) = [] := List.drop_eq_nil_of_le (by simp; omega)
  rw [e1, List.append_nil, List.take_left]
/-- The slice behind the first n of n + m. -/
theorem back_slice (g n m : Nat) : ∃ ao : Option Addr, (∀ W, (Instr.slice 50 (.slice (some ⟨g, 0, none⟩) (n + m) (n + m)) (some (.int .i64 (n : Int))) none none).run Try.prog W = .ok (.slice ao m m) W) ∧ (0 < m → ao = some ⟨g, n * 2, none⟩) := by
  refine ⟨if n + m = n then some ⟨g, 0, none⟩ else some ⟨g, n * 2, none⟩, fun W => ?_, fun h => by rw [if_neg (by omega)]⟩
  rw [run_slice_l W 50 _ (n + m) (n + m) elem32 .i64 n (by omega) (by omega), size32]
  simp only [Result.andThen, sliced, Int.toNat_natCast, Nat.add_sub_cancel_left, Option.map_some, Go.WideShapes.add_plain, Nat.zero_add]

set_option maxHeartbeats 2000000 in
set_option maxRecDepth 100000 in
theorem behind83 (ao bo : Option Addr) (c d : Nat) (x y : List Smp) (hx : x.length ≤ 8) (hy : y.length ≤ 8) (w : World) (h1 : SRow w w.heap.size ao x) (h2 : SRow w w.heap.size bo y) :
    Calls Try.prog 117 #[.slice ao x.length c, .slice bo y.length d] w fun e w' => (∃ go k, e = .returned (.slice go (x ++ y).length k) ∧ SRow w' w'.heap.size go (x ++ y)) ∧ Below w.heap.size w w' := by
  have HSx : Hid (∀ W, Below w.heap.size w W → 0 < x.length → ∃ ad, ao = some ad ∧ ∀ j v, (cellsS x)[j]? = some v → W.cell? (ad.add j) = some v) := Lib.hid (fun W hb hp => by
    obtain ⟨ad, e, hB, hc⟩ := h1.src hp
    exact ⟨ad, e, fun j v hv => (hb.cell (p := ad.add j) (by unfold Addr.add; split <;> exact hB)).trans (hc j v hv)⟩)
  have HSy : Hid (∀ W, Below w.heap.size w W → 0 < y.length → ∃ ad, bo = some ad ∧ ∀ j v, (cellsS y)[j]? = some v → W.cell? (ad.add j) = some v) := Lib.hid (fun W hb hp => by
    obtain ⟨ad, e, hB, hc⟩ := h2.src hp
    exact ⟨ad, e, fun j v hv => (hb.cell (p := ad.add j) (by unfold Addr.add; split <;> exact hB)).trans (hc j v hv)⟩)
  have hcx := cellsS_length x
  have hcy := cellsS_length y
  have HA : Hid ((x ++ y).length = x.length + y.length ∧ ∀ W : World, W.heap[w.heap.size]? = some (.cells (cellsS x ++ cellsS y).toArray 42 (0, 0)) → SRow W W.heap.size (some ⟨w.heap.size, 0, none⟩) (x ++ y)) := Lib.hid ⟨List.length_append, fun W h => SRow.of_block (by rw [cellsS_append]; exact h)⟩
  have hox : ∀ v ∈ cellsS x, v.oneCell' = true := cellsS_one
  have hoy : ∀ v ∈ cellsS y, v.oneCell' = true := cellsS_one
  rw [HA.out.1]
  obtain ⟨_, HR⟩ := HA.out
  have HR := Lib.hid HR
  generalize cellsS x = X at HSx hcx hox HR
  generalize cellsS y = Y at HSy hcy hoy HR
  generalize x ++ y = xy at HR ⊢
  generalize x.length = n at *
  generalize y.length = m at *
  clear h1 h2 HA
  obtain ⟨i0, hi, hz0, hz1, hz2⟩ := info_parts Try.info42
  have hsz : (Try.prog.info? 42).map (·.size) = some 2 := by rw [hi]; exact congrArg some hz1
  have hmk : ∀ W : World, (Instr.makeSlice 50 (.int .i64 ((n : Int) + (m : Int))) (.int .i64 ((n : Int) + (m : Int)))).run Try.prog W = .ok (.slice (some ⟨W.heap.size, 0, none⟩) (n + m) (n + m)) (W.alloc (.cells (madeCells #[.int .i64 0, .float .f64 0] ((n + m) * 2)) 42)) := fun W => by
    have := run_make W 50 42 i0 _ Try.underlying50 hi hz0 .i64 .i64 ((n : Int) + (m : Int)) ((n : Int) + (m : Int)) (by omega) (by omega) (by rw [hz2]; omega) (by omega)
    rw [hz1, show ((n : Int) + (m : Int)).toNat = n + m by omega] at this
    exact this
  obtain ⟨bk, hbk, hbk2⟩ := back_slice w.heap.size n m
  obtain ⟨L, hL⟩ : ∃ L, L = (madeCells #[.int .i64 0, .float .f64 0] ((n + m) * 2)).toList := ⟨_, rfl⟩
  have hLl : L.length = (n + m) * 2 := by rw [hL, Array.length_toList, size_madeCells]
  have hLa : madeCells #[.int .i64 0, .float .f64 0] ((n + m) * 2) = L.toArray := by rw [hL, Array.toArray_toList]
  rw [hLa] at hmk
  have HSp := Lib.hid (splice_two (L := L) (X := X) (Y := Y) (by omega))
  have HB1 := Lib.hid ((Below.refl w.heap.size w).alloc (Nat.le_refl _) (.cells L.toArray 42))
  have HG1 : Hid ((w.alloc (.cells L.toArray 42)).heap[w.heap.size]? = some (.cells L.toArray 42 (0, 0))) := Lib.hid (World.alloc_heap_new w _)
  have hS1 : (splice L 0 X).length = (n + m) * 2 := by rw [length_splice _ _ _ (by omega)]; exact hLl
  clear hL hLa
  go_enter Try.func117, Try.ntmps117
  go_wp2_with (refine wp_copy2 rfl _ _ 50 50 rfl 42 Try.underlying50 hsz _ _ _ _ _ _ rfl rfl n ?m1 w.heap.size 0 L 42 ?g1 X hcx ?p1 ?f1 hox ?_)
  case g1 => exact HG1.out
  case f1 => omega
  case m1 => exact Nat.min_eq_left (by omega)
  case p1 => first | exact fun hp => HSx.out _ HB1.out hp | exact fun hp => ⟨rfl, HSx.out _ HB1.out hp⟩
  intro w2 hg2 hb2
  have HG2 := Lib.hid hg2
  have HB2 := Lib.hid (hb2 _ _ HB1.out (Nat.le_refl _))
  clear hg2 hb2 HG1
  go_wp2_with (refine wp_copy2 rfl _ _ 50 50 rfl 42 Try.underlying50 hsz _ _ _ _ _ _ rfl rfl m ?m2 w.heap.size (n * 2) (splice L 0 X) 42 ?g2 Y hcy ?p2 ?f2 hoy ?_)
  case g2 => exact HG2.out
  case f2 => omega
  case m2 => exact Nat.min_self _
  case p2 => exact fun hp => ⟨hbk2 hp, HSy.out _ HB2.out hp⟩
  intro w3 hg3 hb3
  rw [← hcx, HSp.out] at hg3
  have HR3 := Lib.hid (HR.out _ hg3)
  have HB3 := Lib.hid (hb3 _ _ HB2.out (Nat.le_refl _))
  clear hg3 hb3
  go_wp2
  go_ret
  exact ⟨⟨_, _, rfl, HR3.out⟩, HB3.out⟩
end Go.Proofs.Yteiefngamccapaa
