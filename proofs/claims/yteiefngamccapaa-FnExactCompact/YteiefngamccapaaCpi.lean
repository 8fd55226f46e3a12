/- Contract of Compact in the program, over this seat's translation. -/
import Derived.Test.YteiefngamccapaaCpt
import Derived.Test.YteiefngamccapaaCk
import Derived.Test.YteiefngamccapaaK15
import Derived.Test.YteiefngamccapaaPc
import Derived.Maps.OwnIn
namespace Go.Proofs.Yteiefngamccapaa
open Go.RowKit Go.Shelf
attribute [local go_sem] Oper.semAt_some

theorem chunk70 (ao : Option Addr) (n cap : Nat) (w : World) : Calls Try.prog 70 #[.slice ao n cap, .int .i64 8] w fun e w' => e = .returned (.func (.func 90) #[] #[.pointer (some ⟨w.heap.size, 0, none⟩), .pointer (some ⟨w.heap.size + 1, 0, none⟩)]) ∧ w' = (w.alloc (.cells #[.slice ao n cap] 50)).alloc (.cells #[.int .i64 8] 3) := by
  go_enter Try.func70, Try.ntmps70
  go_wp2
  go_ret
  exact ⟨rfl, rfl⟩

def Ty (W : World) (g : Nat) (t : TypeId) : Prop := ∃ cs, W.heap[g]? = some (.cells cs t)
theorem Ty.cells_not {W : World} {g : Nat} {t : TypeId} (h : Ty W g t) {o : Obj} (ho : W.heap[g]? = some o) (hc : o.isCells = false) : False := by
  obtain ⟨cs, h⟩ := h
  rw [h] at ho
  injection ho with ho
  rw [← ho] at hc
  cases hc
theorem own_cells {W : World} {base k : Nat} {t : TypeId} {s n : Nat} {v : Value} {xs : List Value} (h : W.ownsRow base t s v n xs) (hk : v.ownBlock = some k) : Ty W k t := by
  rcases h.2 with ⟨rfl, _⟩ | ⟨g, cap, cur, rfl, _, hg, _⟩
  · simp [Value.ownBlock] at hk
  · simp [Value.ownBlock] at hk
    subst hk
    exact ⟨cur, hg⟩
theorem Bt.ty {W : World} {g : Nat} {a b : Value} (h : Bt W g a b) : ∃ t, Ty W g t := by
  obtain ⟨t, h⟩ := h
  exact ⟨t, _, h⟩
/-- What the loop keeps abides book-keeping. -/
theorem layC_own {β : Type} (B : Nat) (w : World) (base P z : Nat) (mx : Int) (b0 : Nat) (vx : Value) (x : List Smp) (f : β → List Chk) (hB : w.heap.size ≤ B) : OwnFrom B (fun (s : β) W => LayC w base P z mx b0 vx x (f s) W) := fun s X Y row hs hg hr => by
  obtain ⟨o, c, h1, h2, h3, h4, h5, h6, h7⟩ := hs
  have no : ∀ {k : Nat} {t : TypeId}, Ty X k t → row ≠ some k := fun ht e => by
    obtain ⟨_, u, hu, hc⟩ := hr _ e
    exact ht.cells_not hu hc
  refine ⟨o, c, h1.apart hg (by obtain ⟨t, ht⟩ := h1.ty; exact no ht), h2.kept hg ?_, h3, h4.apart hg (by obtain ⟨t, ht⟩ := h4.ty; exact no ht), h5.grown hg h5.size (fun k e => Nat.le_trans hB (hr k e).1), h6.kept hg ?_, h7⟩
  · cases hv : (Value.slice o (f s).length c).ownBlock with
    | none => exact .inl rfl
    | some k => exact .inr (fun e => no (own_cells h2 hv) e.symm)
  · cases hv : vx.ownBlock with
    | none => exact .inl rfl
    | some k => exact .inr (fun e => no (own_cells h6 hv) e.symm)
theorem ty_own {β : Type} (B g : Nat) (t : TypeId) : OwnFrom B (fun (_ : β) W => Ty W g t) := fun _ X Y row hs hg hr => by
  have hs' := hs
  obtain ⟨cs, h⟩ := hs
  exact ⟨cs, (hg.block g (Array.getElem?_eq_some_iff.1 h).1 (fun e => by obtain ⟨_, u, hu, hc⟩ := hr _ e.symm; exact hs'.cells_not hu hc)).trans h⟩
theorem KpX.grown {A C : World} {row : Option Nat} (hg : A.grownBy C row) (ht : ∀ k, row = some k → Ty A k 85) : KpX A C := fun g cs t _ h2 h => by
  refine (hg.block g (Array.getElem?_eq_some_iff.1 h).1 (fun e => ?_)).trans h
  obtain ⟨cs', h'⟩ := ht g e.symm
  rw [h] at h'
  injection h' with h'
  simp at h'
  exact h2 h'.2
theorem KpX.set {A : World} {P i : Nat} {v : Value} (hP : Ty A P 29) : KpX A (A.setCell ⟨P, i, none⟩ v) := fun g cs t h1 _ h => by
  refine (Below.heap_setCell _ _ _ g (fun e => ?_)).trans h
  simp only at e
  subst e
  obtain ⟨cs', h'⟩ := hP
  rw [h] at h'
  injection h' with h'
  simp at h'
  exact h1 h'.2
theorem Ty.kpx {A C : World} {g : Nat} (hb : Below A.heap.size A C) {t : TypeId} (h : Ty A g t) : Ty C g t := by
  obtain ⟨cs, h⟩ := h
  exact ⟨cs, (hb.block g (Array.getElem?_eq_some_iff.1 h).1).trans h⟩
theorem Ty.grown {A C : World} {g : Nat} {row : Option Nat} (hg : A.grownBy C row) (hr : row ≠ some g) {t : TypeId} (h : Ty A g t) : Ty C g t := by
  obtain ⟨cs, h⟩ := h
  exact ⟨cs, (hg.block g (Array.getElem?_eq_some_iff.1 h).1 (fun e => hr e.symm)).trans h⟩
theorem Ty.set {A : World} {g i : Nat} {v : Value} {t : TypeId} (h : Ty A g t) : Ty (A.setCell ⟨g, i, none⟩ v) g t := by
  obtain ⟨cs, h⟩ := h
  exact ⟨_, set_at h⟩
/-- The chunks of the pieces. -/
def pkOf {o0 : Option Addr} {xs : List Smp} (pre : List (Pcs o0 xs)) : List Chk := pre.map fun p => pkC ((xs.drop (8 * p.1.1)).take 8)
theorem pkOf_snoc {o0 : Option Addr} {xs : List Smp} (pre : List (Pcs o0 xs)) (p : Pcs o0 xs) : pkOf (pre ++ [p]) = pkOf pre ++ [pkC ((xs.drop (8 * p.1.1)).take 8)] := by simp [pkOf]
theorem pkOf_len {o0 : Option Addr} {xs : List Smp} (pre : List (Pcs o0 xs)) : (pkOf pre).length = pre.length := by simp [pkOf]
theorem pkOf_up {o0 : Option Addr} {xs : List Smp} {ys : List (Pcs o0 xs)} (h : Up ys) : pkOf ys = cmpT xs ys.length := by
  apply List.ext_getElem
  · rw [pkOf_len, cmpT_len]
  · intro i h1 h2
    rw [pkOf_len] at h1
    simp only [pkOf, cmpT, List.getElem_map, List.getElem_range]
    rw [h i h1]

set_option maxRecDepth 100000 in
set_option maxHeartbeats 8000000 in
theorem cpI (ao : Option Addr) (cap : Nat) (l : List Chk) (fl : Int) (hn : l.length ≤ 1048576) (hF : FitC l 1048576) (w : World) (h : CRow w w.heap.size ao l) :
    Calls Try.prog 44 #[.agg #[.slice ao l.length cap, .int .i64 fl]] w (SeEnd (cpR l fl) (cpF l fl) (gsB l fl) w) := by
  have HB0 := Lib.hid (((Below.refl w.heap.size w).alloc (Nat.le_refl _) (.cells #[.slice ao l.length cap, .int .i64 fl] 29)).alloc (by simp) (.cells #[.slice none 0 0, .int .i64 0] 29))
  have HX0 := Lib.hid ((Bt.new w (.slice ao l.length cap) (.int .i64 fl) 29).alloc (.cells #[.slice none 0 0, .int .i64 0] 29))
  have HZ0 := Lib.hid (Bt.new (w.alloc (.cells #[.slice ao l.length cap, .int .i64 fl] 29)) (.slice none 0 0) (.int .i64 0) 29)
  rw [World.size_alloc] at HZ0
  have HR0 := Lib.hid (GR.after h HB0.out)
  have HC := Lib.hid (fun W hW => goodI ao cap l fl hn hF W hW)
  unfold GsEnd at HC
  clear h
  by_cases hg : gsB l fl = true
  case neg =>
    have hg : gsB l fl = false := by simpa using hg
    rw [hg] at HC
    rw [cpR_no hg, cpF_no hg, hg]
    clear hg
    go_enter Try.func44, Try.ntmps44
    go_wp2_with fail
    refine (HC.out _ HR0.out).mono ?_
    rintro e w1 ⟨rfl, hb1⟩
    have HB1 := Lib.hid (HB0.out.trans (hb1.mono HB0.out.size))
    obtain ⟨z0, z1, f0, f1⟩ := (HZ0.out.below hb1).cells
    clear hb1
    go_wp2
    exact bodyPost_ret (v := .tuple #[.agg #[.slice none 0 0, .int .i64 0], .bool false]) (by simp [results, Try.results44, go_sem, z0, z1]) rfl (se_none (set2_belowC HB1.out (by omega)))
  have h6 := (gs_is hg).len
  have HGd := Lib.hid (gs_is hg).good
  have HA := Lib.hid (fun W hW => ofAll ao cap l h6 hF W hW)
  have h48 : (serL l).length ≤ 48 := by have := serL_len l; omega
  have HFs := Lib.hid (serL_fit l)
  unfold AllEnd at HA
  rw [serR_yes (gs_is hg).all, (gs_is hg).all] at HA
  rw [hg] at HC
  rw [cpR_yes hg, cpF_yes hg, hg]
  clear hg hn hF h6
  generalize serL l = x at HGd HA h48 HFs
  refine (callsIn_wide (n := 3)).1 ?_
  refine callsIn_of_wp_marks Try.func44 rfl trivial ?_ rfl
  simp only [Try.ntmps44, List.size_toArray, List.length_cons, List.length_nil, Nat.reduceAdd, Nat.reduceSub, Array.replicate_succ, Array.replicate_zero, List.push_toArray, List.append_toArray, List.nil_append, List.cons_append]
  gi_wp2_with fail
  refine ⟨trivial, ?_⟩
  refine (callsIn_wide.2 (HC.out _ HR0.out)).mono ?_
  rintro e w1 ⟨rfl, hb1⟩
  have HB1 := Lib.hid (HB0.out.trans (hb1.mono HB0.out.size))
  have HX1 := Lib.hid (HX0.out.below hb1)
  have HZ1 := Lib.hid (HZ0.out.below hb1)
  have HR1 := Lib.hid (GR.after HR0.out hb1)
  have hzl : w.heap.size + 1 < w1.heap.size := HZ1.out.lt
  obtain ⟨x0, x1, _⟩ := HX1.out.cells
  clear hb1 HB0 HX0 HZ0 HR0
  gi_wp2_with fail
  refine ⟨trivial, ?_⟩
  refine (callsIn_wide.2 (HA.out _ HR1.out)).mono ?_
  rintro e w2 ⟨⟨bo, cp, rfl, ho⟩, hb2⟩
  have hcp := own_len ho
  have h12 := hb2.size
  have HB2 := Lib.hid (HB1.out.trans (hb2.mono HB1.out.size))
  have HZ2 := Lib.hid (HZ1.out.below hb2)
  have HO2 := Lib.hid ho
  have HV2 := Lib.hid (fun k (hk : (Value.slice bo x.length cp).ownBlock = some k) => (ho.lt k hk).2)
  obtain ⟨y0, y1, _⟩ := (HX1.out.below hb2).cells
  clear hb2 ho x0 x1
  gi_wp2_with fail
  refine ⟨trivial, ?_⟩
  refine (callsIn_wide.2 (chunk70 bo x.length cp _)).mono ?_
  rintro e w' ⟨rfl, rfl⟩
  gi_wp2_with fail
  have bS := (Boxed.new (w2.alloc (.cells #[.slice none 0 0, .int .i64 fl] 29)) 50 (.slice bo x.length cp)).alloc (.cells #[.int .i64 8] 3)
  have bN := Boxed.new ((w2.alloc (.cells #[.slice none 0 0, .int .i64 fl] 29)).alloc (.cells #[.slice bo x.length cp] 50)) 3 (.int .i64 8)
  simp only [World.size_alloc] at bS bN
  have bP := ((Bt.new w2 (.slice none 0 0) (.int .i64 fl) 29).alloc (.cells #[.slice bo x.length cp] 50)).alloc (.cells #[.int .i64 8] 3)
  have bT : Ty (((w2.alloc (.cells #[.slice none 0 0, .int .i64 fl] 29)).alloc (.cells #[.slice bo x.length cp] 50)).alloc (.cells #[.int .i64 8] 3)) w2.heap.size 29 := ⟨_, (Below.heap_alloc _ _ _ (by simp; omega)).trans ((Below.heap_alloc _ _ _ (by simp)).trans (World.alloc_heap_new w2 _))⟩
  have bZ := ((HZ2.out.alloc (.cells #[.slice none 0 0, .int .i64 fl] 29)).alloc (.cells #[.slice bo x.length cp] 50)).alloc (.cells #[.int .i64 8] 3)
  have bO := ((HO2.out.alloc (.cells #[.slice none 0 0, .int .i64 fl] 29)).alloc (.cells #[.slice bo x.length cp] 50)).alloc (.cells #[.int .i64 8] 3)
  have bB : Below w.heap.size w (((w2.alloc (.cells #[.slice none 0 0, .int .i64 fl] 29)).alloc (.cells #[.slice bo x.length cp] 50)).alloc (.cells #[.int .i64 8] 3)) := ((HB2.out.alloc HB2.out.size _).alloc (by have := HB2.out.size; simp; omega) _).alloc (by have := HB2.out.size; simp; omega) _
  have hsz : (((w2.alloc (.cells #[.slice none 0 0, .int .i64 fl] 29)).alloc (.cells #[.slice bo x.length cp] 50)).alloc (.cells #[.int .i64 8] 3)).heap.size = w2.heap.size + 3 := by simp
  obtain ⟨W0, hW0⟩ : ∃ W0, (((w2.alloc (.cells #[.slice none 0 0, .int .i64 fl] 29)).alloc (.cells #[.slice bo x.length cp] 50)).alloc (.cells #[.int .i64 8] 3)) = W0 := ⟨_, rfl⟩
  rw [hW0] at bS bN bP bT bZ bO bB hsz ⊢
  clear hW0 y0 y1
  have hL0 : LayC w W0.heap.size w2.heap.size (w.heap.size + 1) fl w1.heap.size (.slice bo x.length cp) x (pkOf ([] : List (Pcs bo x))) W0 := ⟨none, 0, bP, World.ownsRow_nil _ _ _ _, by simp [Value.ownBlock], bZ, bB, bO, fun k hk => ⟨by have := HV2.out k hk; omega, by have := HV2.out k hk; omega⟩⟩
  clear bP bZ bO
  refine wpIn_rangeFunc_ownH rfl (by omega) (gf := 90) (lb := #[.pointer (some ⟨w2.heap.size + 1, 0, none⟩), .pointer (some ⟨w2.heap.size + 1 + 1, 0, none⟩)]) rfl trivial (enters_of Try.func90 (by kernel_rfl) rfl)
    (N := 100) (w0 := W0) (S := fun ys : List (Pcs bo x) => Up ys ∧ x.length ≤ 8 * ys.length ∧ 8 * ys.length ≤ x.length + 7) (Sp := fun _ => True) (encs := ckV)
    (fun lp J Jx W hW hJ _ hY h0 => iterC 2 (by omega) lp (w2.heap.size + 1) (w2.heap.size + 1 + 1) W.heap.size bo cp x h48 hcp J Jx hJ hY W ((hW.block _ bS.lt).trans bS) ((hW.block _ bN.lt).trans bN) h0)
    KpX.trans (fun W l o o' _ h1 h2 _ => KpX.put W l o o' h1 h2) (Below.refl _ _) (fun _ => rfl)
    (fun pre W => LayC w W0.heap.size w2.heap.size (w.heap.size + 1) fl w1.heap.size (.slice bo x.length cp) x (pkOf pre) W ∧ Ty W w2.heap.size 29)
    (fun _ _ _ => False)
    (OwnFrom.and (layC_own _ _ _ _ _ _ _ _ _ _ (by have := bB.size; omega)) (ty_own _ _ _))
    (fun _ _ _ _ _ hs _ _ => hs)
    ⟨hL0, bT⟩
    (fun p a' _ => a' = { tmps := #[.agg #[.slice ao l.length cap, .int .i64 fl], .pointer (some ⟨w.heap.size, 0, none⟩), .pointer (some ⟨w.heap.size + 1, 0, none⟩), .bool false, .slice bo x.length cp, .bool true, .pointer (some ⟨w2.heap.size, 0, none⟩), .slice p.1.2 ((x.drop (8 * p.1.1)).take 8).length ((x.drop (8 * p.1.1)).take 8).length, undef, undef, .agg #[.slice ao l.length cap, .int .i64 fl], .bool true, .bool false, undef, .tuple #[.slice bo x.length cp, .bool true], .pointer (some ⟨w.heap.size, 0, none⟩), .slice ao l.length cap, .tuple #[.slice bo x.length cp, .bool true], .slice bo x.length cp, .bool true, .pointer (some ⟨w.heap.size, 1, none⟩), .int .i64 fl, .agg #[.slice none 0 0, .int .i64 fl], .slice bo x.length cp, .func (.func 90) #[] #[.pointer (some ⟨w2.heap.size + 1, 0, none⟩), .pointer (some ⟨w2.heap.size + 1 + 1, 0, none⟩)], .slice p.1.2 ((x.drop (8 * p.1.1)).take 8).length ((x.drop (8 * p.1.1)).take 8).length, undef, undef, undef, undef, undef, undef, undef, undef, undef, undef, undef, undef], defers := [] })
    (fun _ _ _ _ _ _ hs _ _ => hs) ?assign ?body ?done ?stop
  case assign =>
    rintro lp pre p W K ⟨hL, hT⟩ hK
    gi_wp2
    exact hK _ _ ((KeepsOthers.refl _).from _) (KpX.refl _) ⟨hL, hT⟩ (by simp)
  case body =>
    rintro lp pre p a' W hl ⟨r, hr⟩ ⟨⟨o, c, hP, hO, hv, hZ, hB, hO6, hV6⟩, hT⟩ rfl hlt
    have hbase : W0.heap.size ≤ W.heap.size := by have := (Array.getElem?_eq_some_iff.1 hr).1; omega
    have hq8 : ((x.drop (8 * p.1.1)).take 8).length ≤ 8 := by rw [List.length_take]; omega
    have hpb : pkB ((x.drop (8 * p.1.1)).take 8) = true := pkB_good hq8 (good_take (good_drop HGd.out _) _)
    have HPk := Lib.hid (pack23 p.1.2 ((x.drop (8 * p.1.1)).take 8).length ((x.drop (8 * p.1.1)).take 8) ((HFs.out.drop _).take _) (by omega) W (p.2.2 W _ (SRow.of_own hO6).2))
    have HX := Lib.hid (pkOf_snoc pre p)
    unfold PkEnd at HPk
    rw [pkR_yes hpb, hpb] at HPk
    have hpl := pkOf_len pre
    have hpn : (pkOf pre).length ≤ 100 := by omega
    obtain ⟨i0, hi, hz0, hz1, hz2⟩ := info_parts Try.infoC
    have HP0 := Lib.hid hP
    have HO0 := Lib.hid hO
    have HV0 := Lib.hid hv
    have HZ0 := Lib.hid hZ
    have HBw := Lib.hid hB
    have HX6 := Lib.hid hO6
    have HV6 := Lib.hid hV6
    have HT0 := Lib.hid hT
    clear hP hO hv hZ hB hO6 hV6 hT hr hpl hpb hL0 bS bN bT bB
    generalize pkOf pre = cs at HP0 HO0 HV0 HX hpn
    generalize ((x.drop (8 * p.1.1)).take 8) = q at HPk HX
    generalize pkC q = ch at HPk HX
    obtain ⟨q0, q1, q2, q3⟩ := ch
    unfold chV at HPk
    simp only at HPk
    gi_wp2_with fail
    refine ⟨trivial, ?_⟩
    refine (callsIn_wide.2 HPk.out).mono ?_
    rintro e w3 ⟨rfl, hb3⟩
    have hb3a := hb3.alloc hb3.size (.cells #[.string q0, .int .i64 q1, .int .i64 q2, .int .i64 q3] 85)
    have HP3 := Lib.hid (HP0.out.below hb3a)
    have HO3 := Lib.hid (own_below HO0.out hb3a)
    have HZ3 := Lib.hid (HZ0.out.below hb3a)
    have HB3 := Lib.hid (HBw.out.trans (hb3a.mono HBw.out.size))
    have HX3 := Lib.hid (own_below HX6.out hb3a)
    have HT3 := Lib.hid (HT0.out.kpx hb3a)
    have HK3 := Lib.hid (KpX.of_below hb3a)
    have HKo := Lib.hid (show KeepsOthers W (w3.alloc (.cells #[.string q0, .int .i64 q1, .int .i64 q2, .int .i64 q3] 85)) from ⟨hb3a.size, fun k _ h _ => (hb3a.block k (Array.getElem?_eq_some_iff.1 h).1).trans h⟩)
    have hs3 := hb3.size
    have HSrc := Lib.hid (fun j u (h : (cC (q0, q1, q2, q3))[j]? = some u) => (src_four (w3.alloc (.cells #[.string q0, .int .i64 q1, .int .i64 q2, .int .i64 q3] 85)) (.string q0) (.int .i64 q1) (.int .i64 q2) (.int .i64 q3) 85).2.2 _ rfl j u h)
    simp only [World.size_alloc] at HSrc
    obtain ⟨p0, p1, pf0, pf1⟩ := HP3.out.cells
    clear hb3 hb3a
    gi_wp2_with (gi_at_builtin; refine wpListIn_append_own_at _ rfl _ _ 27 rfl W0.heap.size 85 i0 _ 4 40 Try.underlying27 hi hz0 hz1 hz2 rfl (by decide) _ _ _ rfl (HO3.out.alloc _) ⟨w3.heap.size + 1, 0, none⟩ 1 1 (cC (q0, q1, q2, q3)) rfl rfl HSrc.out (cC_ones _) (by unfold maxLen; omega) (by omega) (by simp; omega) ?_; intro v' w5 hown' hgrow _ hv'; obtain ⟨o', c', rfl⟩ := own_slice hown'; have HP5 := Lib.hid ((HP3.out.alloc (.cells #[.string q0, .int .i64 q1, .int .i64 q2, .int .i64 q3] 85)).apart hgrow HV0.out); obtain ⟨y0, y1, yf0, yf1⟩ := HP5.out.cells)
    have HL5 : LayC w W0.heap.size w2.heap.size (w.heap.size + 1) fl w1.heap.size (.slice bo x.length cp) x (pkOf (pre ++ [p])) (w5.setCell ⟨w2.heap.size, 0, none⟩ (.slice o' (cs.length + 1) c')) := by
      rw [HX.out]
      exact LayC.more (by omega) (by omega) (by omega) (by have := HBw.out.size; omega) (HP3.out.alloc (.cells #[.string q0, .int .i64 q1, .int .i64 q2, .int .i64 q3] 85)) (HZ3.out.alloc (.cells #[.string q0, .int .i64 q1, .int .i64 q2, .int .i64 q3] 85)) (HB3.out.alloc HB3.out.size (.cells #[.string q0, .int .i64 q1, .int .i64 q2, .int .i64 q3] 85)) (HX3.out.alloc (.cells #[.string q0, .int .i64 q1, .int .i64 q2, .int .i64 q3] 85)) HV6.out (fun k hk => (HO3.out.lt k hk).1) HV0.out rfl hown' hgrow hv'
    have HTa := (HT3.out.kpx ((Below.refl _ _).alloc (Nat.le_refl _) (.cells #[.string q0, .int .i64 q1, .int .i64 q2, .int .i64 q3] 85))).grown hgrow HV0.out
    have HK5 : KpX W (w5.setCell ⟨w2.heap.size, 0, none⟩ (.slice o' (cs.length + 1) c')) := ((HK3.out.trans (KpX.of_below ((Below.refl _ _).alloc (Nat.le_refl _) (.cells #[.string q0, .int .i64 q1, .int .i64 q2, .int .i64 q3] 85)))).trans (KpX.grown hgrow (fun k hk => own_cells (HO3.out.alloc (.cells #[.string q0, .int .i64 q1, .int .i64 q2, .int .i64 q3] 85)) hk))).trans (KpX.set HTa)
    have HKf := (((HKo.out.trans (KeepsOthers.alloc _ (.cells #[.string q0, .int .i64 q1, .int .i64 q2, .int .i64 q3] 85))).trans (KeepsOthers.of_grownBy hgrow (fun j u hj hu => by
      obtain ⟨cs', h'⟩ := own_cells (HO3.out.alloc (.cells #[.string q0, .int .i64 q1, .int .i64 q2, .int .i64 q3] 85)) hj
      rw [h'] at hu
      injection hu with hu
      rw [← hu]; rfl))).trans (KeepsOthers.setCell _ ⟨w2.heap.size, 0, none⟩ (.slice o' (cs.length + 1) c'))).from W0.heap.size
    exact ⟨HKf, HK5, HL5, HTa.set⟩
  case done =>
    rintro D ys W hD ⟨hU, h1, h2⟩ ⟨⟨o, c, hP, hO, hv, hZ, hB, _, _⟩, _⟩ hK
    rw [pkOf_up hU, cmpT_all h1 h2] at hP hO hv
    obtain ⟨p0, p1, pf0, pf1⟩ := hP.cells
    obtain ⟨z0, z1, zf0, zf1⟩ := hZ.cells
    have hDw : w.heap.size + 1 < D := by omega
    have hDP : w2.heap.size < D := by omega
    have HK2 : Hid (((W.setCell ⟨w.heap.size + 1, 0, none⟩ (.slice o (cmpL x).length c)).setCell ⟨w.heap.size + 1, 1, none⟩ (.int .i64 fl)).heap[D]? = some (.deferred (some []))) := Lib.hid (by
      rw [Below.heap_setCell _ _ _ D (by dsimp only; omega), Below.heap_setCell _ _ _ D (by dsimp only; omega)]
      exact hK)
    have HZ2' : Hid (Bt ((W.setCell ⟨w.heap.size + 1, 0, none⟩ (.slice o (cmpL x).length c)).setCell ⟨w.heap.size + 1, 1, none⟩ (.int .i64 fl)) (w.heap.size + 1) (.slice o (cmpL x).length c) (.int .i64 fl)) := Lib.hid (by
      obtain ⟨t, ht⟩ := hZ
      exact ⟨t, set_at (i := 1) (v := .int .i64 fl) (set_at (i := 0) (v := .slice o (cmpL x).length c) ht)⟩)
    have HO3 : Hid (((W.setCell ⟨w.heap.size + 1, 0, none⟩ (.slice o (cmpL x).length c)).setCell ⟨w.heap.size + 1, 1, none⟩ (.int .i64 fl)).ownsRow W0.heap.size 85 4 (.slice o (cmpL x).length c) (cmpL x).length (cellsG cC (cmpL x))) := Lib.hid (own_set (own_set hO (by omega)) (by omega))
    have HB3 := Lib.hid (set2_belowC (a := .slice o (cmpL x).length c) (b := .int .i64 fl) hB (show w.heap.size ≤ w.heap.size + 1 by omega))
    clear hP hO hv hZ hB hK
    gi_wp2
    refine ⟨by simp, .inl ⟨_, _, rfl, run_takeDeferred HK2.out, ?_⟩⟩
    have HZ4 : Bt (((W.setCell ⟨w.heap.size + 1, 0, none⟩ (.slice o (cmpL x).length c)).setCell ⟨w.heap.size + 1, 1, none⟩ (.int .i64 fl)).putObj D (.deferred none)) (w.heap.size + 1) (.slice o (cmpL x).length c) (.int .i64 fl) := by
      obtain ⟨t, ht⟩ := HZ2'.out
      exact ⟨t, (World.putObj_heap_other (by omega)).trans ht⟩
    have HB4 : Below w.heap.size w (((W.setCell ⟨w.heap.size + 1, 0, none⟩ (.slice o (cmpL x).length c)).setCell ⟨w.heap.size + 1, 1, none⟩ (.int .i64 fl)).putObj D (.deferred none)) := HB3.out.trans (belowK_b (w := w) (Nat.le_refl _) _ D _ _ (by omega) HK2.out rfl rfl)
    have HO4 := ownsRow_putObj HO3.out (.deferred none) HK2.out rfl
    obtain ⟨r0, r1, _⟩ := HZ4.cells
    exact ⟨.tuple #[.agg #[.slice o (cmpL x).length c, .int .i64 fl], .bool true], by simp [results, Try.results44, go_sem, r0, r1], se_some (own_lower HO4 (by have := HB2.out.size; omega)) HB4⟩
  case stop =>
    rintro D c pre W _ _ h _
    exact h.elim
end Go.Proofs.Yteiefngamccapaa
