/- A block of two cells, and what calls leave of blocks. Nothing of any program stands here. -/
import Derived.Test.YteiefngamccapaaK4
import Derived.Test.YteiefngamccapaaK2
import Derived.Deep.Heap
import Derived.Test.YteiefngamccapaaK3
import Derived.Deep.RegionHeld3
import Derived.Maps.Range
namespace Go.Proofs.Yteiefngamccapaa
open Go.ChangeShapes Go.WideShapes Go.ChangeAt Go.RowKit Go.ChangeMaps Go.Deep

theorem cellsSer : Try.prog.cellsOf 24 = 2 := by kernel_rfl
theorem cellsSl : Try.prog.cellsOf 22 = 1 := by kernel_rfl
theorem cellsCh : Try.prog.cellsOf 99 = 4 := by kernel_rfl
section
variable {H : Type} {enc : TypeId × Value → H} {w : World} {base : Nat} {spare : Nat → Bool} {held : Bool}

set_option maxRecDepth 100000 in
theorem ser_cells {fuel : Nat} {cs : List Value} {x : DataW H × List MemPlace} (h : DataW.trod enc Try.prog w base spare held fuel 24 cs = some x) : ∃ (c0 : Value) (fl : Int) (n : Nat) (x0 : DataW H × List MemPlace), cs = [c0, .int .i64 fl] ∧ DataW.trod enc Try.prog w base spare held n 22 [c0] = some x0 := by
  obtain ⟨xs, n, _, _, hcl, hlen, hf⟩ := DataW.trod_struct Try.underlying24 h
  have h0 := hf 0 _ rfl
  have h1 := hf 1 _ rfl
  rw [cellsSer] at hcl
  match cs, hcl, xs, hlen with
  | [c0, c1], _, [x0, x1], _ =>
    simp [cells3, cellsSl] at h0 h1
    obtain ⟨a, e1, _, s1⟩ := DataW.trod_int Try.underlying3 h1
    simp at e1
    exact ⟨c0, a, n, x0, by rw [e1], h0⟩
set_option maxRecDepth 100000 in
theorem open_series {v : Value} {d : DataW H} {ps : List MemPlace} (hv : ∃ cs, v = .agg cs ∧ cs.size = Try.prog.cellsOf 24) (h : DataW.Trod enc Try.prog w base spare held 24 v d ps) : ∃ ao cap l fl, v = .agg #[.slice ao l.length cap, .int .i64 fl] ∧ l.length ≤ maxLen ∧ FitC l maxLen ∧ CRow w w.heap.size ao l := by
  obtain ⟨cs, rfl, _⟩ := hv
  obtain ⟨fuel, hf⟩ := h
  obtain ⟨c0, fl, n, x0, hcs, h2⟩ := ser_cells hf
  simp [Value.cells] at hcs
  clear hf
  obtain ⟨csl⟩ := cs
  simp at hcs
  subst hcs
  rcases open_slice Try.underlying22 h2 with ⟨hcs, _⟩ | ⟨a', len, cap, m, n', D, Pl, hcs, _, hl, hcm, hm, _, hx⟩
  · simp at hcs
    subst hcs
    exact ⟨none, 0, [], fl, rfl, by simp, fun c hc => by simp at hc, GR.nil _ _ _⟩
  · simp at hcs
    subst hcs
    have hlm : len ≤ m := by rw [hm]; split <;> omega
    obtain ⟨B, hB⟩ := choose_lt (α := Chk) (n := len) (p := fun i x => (w.cell? (a'.add (i * 4)) = some (.string x.1) ∧ w.cell? (a'.add (i * 4 + 1)) = some (.int .i64 x.2.1) ∧ w.cell? (a'.add (i * 4 + 2)) = some (.int .i64 x.2.2.1) ∧ w.cell? (a'.add (i * 4 + 3)) = some (.int .i64 x.2.2.2)) ∧ x.1.size ≤ maxLen) (fun i hi => by
      obtain ⟨cs', hc, ht⟩ := hx i (by omega)
      rw [cellsCh] at hc
      obtain ⟨s, x, y, z, rfl, s0, _⟩ := four_cells ht
      obtain ⟨_, _, hat⟩ := World.cells?_some hc
      have e0 := hat 0 (by omega)
      have e1 := hat 1 (by omega)
      have e2 := hat 2 (by omega)
      have e3 := hat 3 (by omega)
      rw [Go.Deep.add_add] at e0 e1 e2 e3
      exact ⟨(s, x, y, z), ⟨by simpa using e0, by simpa using e1, by simpa using e2, by simpa using e3⟩, s0⟩)
    have hk : ∀ (k : Nat) (h : k < ((List.range len).map B).length), ((List.range len).map B)[k] = B k := by intro k h; simp
    refine ⟨some a', cap, (List.range len).map B, fl, by simp, by simp; omega, ?_, ?_⟩
    · intro x hx
      simp at hx
      obtain ⟨i, hi, rfl⟩ := hx
      exact (hB i hi).2
    · intro hp
      simp at hp
      obtain ⟨b, off, spot⟩ := a'
      have h0 := (hB 0 hp).1.1
      have hs : spot = none := by simpa [Addr.add] using World.cell?_spot h0
      subst hs
      refine ⟨b, off, rfl, ?_, ?_⟩
      · have : w.cell? ⟨b, off, none⟩ = some (.string (B 0).1) := by simpa [Addr.add] using h0
        exact World.block_lt_of_cell? w _ this
      · intro i hi j v hv
        rw [hk i hi] at hv
        simp at hi
        obtain ⟨⟨g0, g1, g2, g3⟩, _⟩ := hB i hi
        rw [add_plain] at g0 g1 g2 g3
        have hj : j < 4 := (List.getElem?_eq_some_iff.1 hv).1
        match j, hj, hv with
        | 0, _, hv => injection hv with hv; subst hv; exact g0
        | 1, _, hv => injection hv with hv; subst hv; rw [Nat.add_assoc]; exact g1
        | 2, _, hv => injection hv with hv; subst hv; rw [Nat.add_assoc]; exact g2
        | 3, _, hv => injection hv with hv; subst hv; rw [Nat.add_assoc]; exact g3
end
end Go.Proofs.Yteiefngamccapaa
namespace Go.Proofs.Yteiefngamccapaa
open Go.RowKit Go.Deep

/-- A block of two cells. -/
def Bt (W : World) (g : Nat) (y0 y1 : Value) : Prop := ∃ t, W.heap[g]? = some (.cells #[y0, y1] t)
theorem Bt.lt {w : World} {g : Nat} {a b : Value} (h : Bt w g a b) : g < w.heap.size := by
  obtain ⟨t, h⟩ := h
  exact (Array.getElem?_eq_some_iff.1 h).1
theorem Bt.below {w w' : World} {g : Nat} {a b : Value} (h : Bt w g a b) (hb : Below w.heap.size w w') : Bt w' g a b := by
  obtain ⟨t, h⟩ := h
  exact ⟨t, (hb.block _ (Array.getElem?_eq_some_iff.1 h).1).trans h⟩
theorem Bt.alloc {w : World} {g : Nat} {a b : Value} (h : Bt w g a b) (o : Obj) : Bt (w.alloc o) g a b := h.below ((Below.refl _ _).alloc (Nat.le_refl _) o)
theorem Bt.new (w : World) (a b : Value) (t : TypeId) : Bt (w.alloc (.cells #[a, b] t)) w.heap.size a b := ⟨t, blk_alloc_new w _⟩
theorem Bt.cells {w : World} {g : Nat} {a b : Value} (h : Bt w g a b) : w.cell? ⟨g, 0, none⟩ = some a ∧ w.cell? ⟨g, 1, none⟩ = some b ∧ w.frozen? ⟨g, 0, none⟩ = false ∧ w.frozen? ⟨g, 1, none⟩ = false := by
  obtain ⟨t, h⟩ := h
  refine ⟨?_, ?_, ?_, ?_⟩ <;> simp [World.cell?, World.frozen?, h]
theorem Bt.drew {W : World} {g : Nat} {a b : Value} (h : Bt W g a b) : Bt W.drew g a b := h
theorem gb_set (w : World) (g i : Nat) (u : Value) : w.grownBy (w.setCell ⟨g, i, none⟩ u) (some g) :=
  ⟨rfl, rfl, rfl, by simp, fun k _ hne => Below.heap_setCell _ _ _ k (fun e => hne (by rw [e]))⟩
theorem own_set {w : World} {base g i : Nat} {e : TypeId} {s n : Nat} {v u : Value} {xs : List Value} (h : w.ownsRow base e s v n xs) (hg : g < base) : (w.setCell ⟨g, i, none⟩ u).ownsRow base e s v n xs := own_other h hg (gb_set w g i u)
theorem own_lower {w : World} {base base' : Nat} {e : TypeId} {s : Nat} {v : Value} {n : Nat} {xs : List Value} (h : w.ownsRow base e s v n xs) (hB : base' ≤ base) : w.ownsRow base' e s v n xs := by
  obtain ⟨h0, ⟨h1, h2⟩ | ⟨g, cap, cur, h1, hge, hr⟩⟩ := h
  · exact ⟨h0, .inl ⟨h1, h2⟩⟩
  · exact ⟨h0, .inr ⟨g, cap, cur, h1, Nat.le_trans hB hge, hr⟩⟩
end Go.Proofs.Yteiefngamccapaa
namespace Go.Proofs.Yteiefngamccapaa
open Go.RowKit Go.Deep

set_option maxHeartbeats 2000000 in
theorem szSer (ao : Option Addr) (cap : Nat) (l : List Chk) (fl : Int) (hn : l.length ≤ maxLen) (hm : FitC l maxLen) (left : Int) (h0 : 0 ≤ left) (h1 : left ≤ 1048576) (w : World) (h : CRow w w.heap.size ao l) :
    Calls Try.prog 12 #[.agg #[.slice ao l.length cap, .int .i64 fl], .int .i64 left] w fun e w' => (∃ r : Int, e = .returned (.int .i64 r) ∧ r ≤ left ∧ (r = -1 ∨ (0 ≤ r ∧ l.length ≤ 1048576 ∧ FitC l 1048576))) ∧ Below w.heap.size w w' := by
  have HB0 := Lib.hid ((Below.refl w.heap.size w).alloc (Nat.le_refl _) (.cells #[.slice ao l.length cap, .int .i64 fl] 24))
  have HR := Lib.hid (GR.after h HB0.out)
  clear h
  go_enter Try.func12, Try.ntmps12
  go_wp2_with fail
  refine (szCs ao cap l hn hm left h0 h1 _ HR.out).mono ?_
  rintro e w1 ⟨⟨r, rfl, hr, hor⟩, hb1⟩
  have HB1 := Lib.hid (HB0.out.trans (hb1.mono HB0.out.size))
  have HO := Lib.hid hor
  clear hb1
  rcases hor with rfl | ⟨h, _⟩
  · go_wp2
    go_ret
    exact ⟨⟨-1, rfl, hr, .inl rfl⟩, HB1.out⟩
  · go_wp2
    go_ret
    exact ⟨⟨r, rfl, hr, HO.out⟩, HB1.out⟩

/-- What a copy of a series comes to. -/
def MadeS (base : Nat) (l : List Chk) (fl : Int) (w : World) (e : Ending) (w' : World) : Prop :=
  ∃ v, e = .returned (.agg #[v, .int .i64 fl]) ∧ w'.ownsRow base 85 4 v l.length (cellsG cC l) ∧ Below w.heap.size w w'
theorem made_ser {w w' : World} {base : Nat} {l : List Chk} {fl : Int} {e : Ending} (h : MadeS base l fl w e w') : ∃ ao c, e = .returned (.agg #[.slice ao l.length c, .int .i64 fl]) ∧ w'.ownsRow base 85 4 (.slice ao l.length c) l.length (cellsG cC l) ∧ CRow w' w'.heap.size ao l ∧ Below w.heap.size w w' := by
  obtain ⟨v, rfl, ho, hb⟩ := h
  obtain ⟨ao, c, rfl⟩ := own_slice ho
  exact ⟨ao, c, rfl, ho, GR.of_own cC_len ho, hb⟩

set_option maxHeartbeats 2000000 in
set_option maxRecDepth 100000 in
theorem toSer (ao : Option Addr) (cap : Nat) (l : List Chk) (fl : Int) (hn : l.length ≤ 1048576) (w : World) (h : CRow w w.heap.size ao l) :
    Calls Try.prog 14 #[.agg #[.slice ao l.length cap, .int .i64 fl]] w (MadeS w.heap.size l fl w) := by
  have HB0 := Lib.hid ((((Below.refl w.heap.size w).alloc (Nat.le_refl _) (.cells #[.slice ao l.length cap, .int .i64 fl] 24)).alloc (by simp) (.cells #[.slice none 0 0, .int .i64 0] 29)).alloc (by simp; omega) (.cells #[.slice none 0 0, .int .i64 0] 29))
  have HX0 := Lib.hid (((Bt.new w (.slice ao l.length cap) (.int .i64 fl) 24).alloc (.cells #[.slice none 0 0, .int .i64 0] 29)).alloc (.cells #[.slice none 0 0, .int .i64 0] 29))
  have HY0 := Lib.hid ((Bt.new (w.alloc (.cells #[.slice ao l.length cap, .int .i64 fl] 24)) (.slice none 0 0) (.int .i64 0) 29).alloc (.cells #[.slice none 0 0, .int .i64 0] 29))
  have HZ0 := Lib.hid (Bt.new ((w.alloc (.cells #[.slice ao l.length cap, .int .i64 fl] 24)).alloc (.cells #[.slice none 0 0, .int .i64 0] 29)) (.slice none 0 0) (.int .i64 0) 29)
  simp only [World.size_alloc] at HY0 HZ0
  have HR := Lib.hid (GR.after h HB0.out)
  clear h
  go_enter Try.func14, Try.ntmps14
  go_wp2_with fail
  refine (toCs ao cap l hn _ HR.out).mono ?_
  rintro e w1 h1
  obtain ⟨o1, k1, rfl, hO1, _, hb1⟩ := made_crow h1
  simp only [World.size_alloc] at hO1
  have HO1 := Lib.hid hO1
  have HB1 := Lib.hid (HB0.out.trans (hb1.mono HB0.out.size))
  obtain ⟨x0, x1, _⟩ := (HX0.out.below hb1).cells
  obtain ⟨y0, y1, fy0, fy1⟩ := (HY0.out.below hb1).cells
  obtain ⟨z0, z1, fz0, fz1⟩ := (HZ0.out.below hb1).cells
  clear hb1 h1 hO1
  go_wp2
  refine bodyPost_ret (v := .agg #[.slice o1 l.length k1, .int .i64 fl]) (by simp [results, Try.results14, go_sem, y0, y1]) rfl ⟨_, rfl, ?_, ?_⟩
  · exact own_lower (own_set (own_set (own_set (own_set HO1.out (by omega)) (by omega)) (by omega)) (by omega)) (by omega)
  · exact (((HB1.out.setCell (by dsimp only; omega) _).setCell (by dsimp only; omega) _).setCell (by dsimp only; omega) _).setCell (by dsimp only; omega) _

set_option maxHeartbeats 2000000 in
set_option maxRecDepth 100000 in
theorem eqSer (ao bo : Option Addr) (c d : Nat) (l : List Chk) (fl : Int) (hn : l.length ≤ 1048576) (w : World) (ha : CRow w w.heap.size ao l) (hb : CRow w w.heap.size bo l) :
    Calls Try.prog 16 #[.agg #[.slice ao l.length c, .int .i64 fl], .agg #[.slice bo l.length d, .int .i64 fl]] w fun e w' => e = .returned (.bool true) ∧ Below w.heap.size w w' := by
  have HB0 := Lib.hid (((Below.refl w.heap.size w).alloc (Nat.le_refl _) (.cells #[.slice ao l.length c, .int .i64 fl] 29)).alloc (by simp) (.cells #[.slice bo l.length d, .int .i64 fl] 29))
  have HX0 := Lib.hid ((Bt.new w (.slice ao l.length c) (.int .i64 fl) 29).alloc (.cells #[.slice bo l.length d, .int .i64 fl] 29))
  have HY0 := Lib.hid (Bt.new (w.alloc (.cells #[.slice ao l.length c, .int .i64 fl] 29)) (.slice bo l.length d) (.int .i64 fl) 29)
  simp only [World.size_alloc] at HY0
  have HA := Lib.hid (GR.after ha HB0.out)
  have HC := Lib.hid (GR.after hb HB0.out)
  clear ha hb
  go_enter Try.func16, Try.ntmps16
  go_wp2_with fail
  refine (eqCs ao bo c d l hn _ HA.out HC.out).mono ?_
  rintro e w1 ⟨rfl, hb1⟩
  have HB1 := Lib.hid (HB0.out.trans (hb1.mono HB0.out.size))
  obtain ⟨x0, x1, _⟩ := (HX0.out.below hb1).cells
  obtain ⟨y0, y1, _⟩ := (HY0.out.below hb1).cells
  clear hb1
  go_wp2
  go_ret
  exact ⟨rfl, HB1.out⟩
end Go.Proofs.Yteiefngamccapaa
namespace Go.Proofs.Yteiefngamccapaa

/-- All numbers in the bytes of samples. -/
def psS (l : List Smp) : List Nat := code (l.map (·.1)) ++ xc 0 (l.map (·.2))
theorem psS_len (l : List Smp) : (psS l).length = l.length + l.length := by unfold psS; rw [List.length_append, code_len, xc_len, List.length_map, List.length_map]
theorem psS_fit {l : List Smp} (h : FitS l) : Fit64 (psS l) := by
  intro u hu
  rcases List.mem_append.1 hu with h1 | h1
  · exact code_fit (fit_times h) u h1
  · exact xc_fit 0 _ u h1
theorem packB_ps (l : List Smp) : packB l = putV l.length ++ byS (psS l) := by
  unfold packB enc whole psS
  rw [code_len, List.length_map, byS_append, List.append_assoc]
theorem packB_front {l : List Smp} (h : FitS l) (h60 : l.length ≤ 60) : Fr (packB l) (code (l.map (·.1))) :=
  ⟨⟨_, rfl⟩, by rw [code_len, List.length_map]; exact h60, code_fit (fit_times h)⟩
theorem at_split {D : List UInt8} {m n a : Nat} {qs ps : List Nat} (h : At D m qs a) (hD : D = putV n ++ byS ps) (hle : qs.length ≤ ps.length) : m = n ∧ ps.take qs.length = qs ∧ D.drop a = byS (ps.drop qs.length) := by
  obtain ⟨h1, _, _⟩ := h
  have e := h1.symm.trans hD
  obtain ⟨e1, e2⟩ := put_front e
  have e3 : byS ps = byS (ps.take qs.length) ++ byS (ps.drop qs.length) := by rw [← byS_append, List.take_append_drop]
  rw [e3] at e2
  obtain ⟨e4, e5⟩ := byS_front (by rw [List.length_take]; omega) e2
  exact ⟨e1, e4.symm, e5⟩

/-- The last value that was read. -/
def lastX (vs : List Nat) : Nat := (0 :: xd 0 vs).getLast (by simp)
theorem lastX_nil : lastX [] = 0 := rfl
theorem lastX_snoc (vs : List Nat) (u : Nat) : lastX (vs ++ [u]) = lastX vs ^^^ flipN u := by
  unfold lastX
  have : (0 :: xd 0 (vs ++ [u])) = (0 :: xd 0 vs) ++ [(0 :: xd 0 vs).getLast (by simp) ^^^ flipN u] := by rw [xd_snoc, List.cons_append]
  simp only [this, List.getLast_append, List.getLast_singleton]
  rw [dif_neg (by simp)]
theorem lastX_lt (vs : List Nat) : lastX vs < 18446744073709551616 := by
  unfold lastX
  have := List.getLast_mem (l := 0 :: xd 0 vs) (by simp)
  rcases List.mem_cons.1 this with h | h
  · rw [h]; decide
  · exact xd_fit (by decide) _ h
/-- The samples of times and values that were read. -/
def smpOf (us vs : List Nat) : List Smp := (decode us).zip (xd 0 vs)
theorem smpOf_nil (us : List Nat) : smpOf us [] = [] := by simp [smpOf, xd]
theorem smpOf_len {us vs : List Nat} (h : vs.length ≤ us.length) : (smpOf us vs).length = vs.length := by
  unfold smpOf
  rw [List.length_zip, decode_len, xd_len]
  omega
theorem smpOf_fit {us vs : List Nat} (h : Fit64 us) : FitS (smpOf us vs) := by
  rintro ⟨a, b⟩ hx
  unfold smpOf at hx
  obtain ⟨h1, h2⟩ := List.of_mem_zip hx
  exact ⟨decode_in h a h1, xd_fit (by decide) b h2⟩
theorem smpOf_snoc {us vs : List Nat} (u : Nat) (h : vs.length < us.length) : smpOf us (vs ++ [u]) = smpOf us vs ++ [(at0 (decode us) vs.length, lastX (vs ++ [u]))] := by
  have hd : vs.length < (decode us).length := by rw [decode_len]; exact h
  have e1 : xd 0 (vs ++ [u]) = xd 0 vs ++ [lastX (vs ++ [u])] := by rw [xd_snoc, lastX_snoc]; rfl
  have e2 : decode us = (decode us).take vs.length ++ ((decode us)[vs.length] :: (decode us).drop (vs.length + 1)) := by
    rw [← List.drop_eq_getElem_cons hd, List.take_append_drop]
  have hl : ((decode us).take vs.length).length = (xd 0 vs).length := by rw [List.length_take, xd_len]; omega
  have e3 : smpOf us vs = ((decode us).take vs.length).zip (xd 0 vs) := by
    unfold smpOf
    conv => lhs; rw [e2, ← List.append_nil (xd 0 vs)]
    rw [List.zip_append hl, List.zip_nil_right, List.append_nil]
  rw [e3]
  unfold smpOf
  conv => lhs; rw [e2, e1]
  rw [List.zip_append hl, at0_get hd, List.zip_cons_cons, List.zip_nil_right]
theorem smpOf_fst {us vs : List Nat} (h : vs.length = us.length) : (smpOf us vs).map (·.1) = decode us := by
  unfold smpOf
  exact List.map_fst_zip (by rw [decode_len, xd_len]; omega)
theorem smpOf_snd {us vs : List Nat} (h : vs.length = us.length) : (smpOf us vs).map (·.2) = xd 0 vs := by
  unfold smpOf
  exact List.map_snd_zip (by rw [decode_len, xd_len]; omega)
theorem fit_left {us vs : List Nat} (h : Fit64 (us ++ vs)) : Fit64 us := fun u hu => h u (List.mem_append_left _ hu)
theorem fit_right {us vs : List Nat} (h : Fit64 (us ++ vs)) : Fit64 vs := fun u hu => h u (List.mem_append_right _ hu)
/-- All was read: the bytes are those of the samples. -/
theorem read_all {D : List UInt8} {m a : Nat} {us vs : List Nat} (h : At D m (us ++ vs) a) (hu : us.length = m) (hv : vs.length = m) (ha : D.length ≤ a) : packB (smpOf us vs) = D := by
  have hf := h.2.2
  rw [packB_ps, smpOf_len (by omega), hv]
  unfold psS
  rw [smpOf_fst (by omega), smpOf_snd (by omega), code_decode (fit_left hf), xc_xd (by decide) (fit_right hf)]
  have h1 := h.1
  rw [List.drop_eq_nil_of_le ha, List.append_nil] at h1
  exact h1.symm
/-- What was packed is found again. -/
theorem read_back {D : List UInt8} {m a : Nat} {us vs : List Nat} {l : List Smp} (h : At D m (us ++ vs) a) (hu : us.length = m) (hv : vs.length = m) (hl : FitS l) (hD : D = packB l) : smpOf us vs = l ∧ a = D.length := by
  have hlen : (us ++ vs).length = m + m := by rw [List.length_append]; omega
  have hm : m = l.length := by
    have h1 := h.1
    rw [hD, packB_ps] at h1
    exact (put_front h1).1.symm
  have hps := psS_len l
  obtain ⟨_, e2, e3⟩ := at_split h (hD.trans (packB_ps l)) (by omega)
  rw [List.take_of_length_le (by omega)] at e2
  have e4 : code (l.map (·.1)) ++ xc 0 (l.map (·.2)) = us ++ vs := e2
  obtain ⟨e5, e6⟩ := List.append_inj e4 (by rw [code_len, List.length_map]; omega)
  refine ⟨?_, ?_⟩
  · rw [← e5, ← e6]
    unfold smpOf
    rw [decode_code (fit_times hl), xd_xc (by decide) (fit_vals hl)]
    exact smp_ext (List.map_fst_zip (by simp)) (List.map_snd_zip (by simp))
  · rw [List.drop_eq_nil_of_le (by omega : (psS l).length ≤ (us ++ vs).length), byS_nil] at e3
    have h5 := congrArg List.length e3
    rw [List.length_drop, List.length_nil] at h5
    have h6 := congrArg List.length h.1
    rw [e3, List.append_nil, List.length_append] at h6
    have := h.2.1
    omega
/-- Where a value can't be read nothing was packed. -/
theorem read_stop {D : List UInt8} {m a : Nat} {us vs : List Nat} {l : List Smp} (h : At D m (us ++ vs) a) (hu : us.length = m) (hv : vs.length < m) (hr : readV (D.drop a) = none) (hl : FitS l) : D ≠ packB l := by
  intro hD
  have hlen : (us ++ vs).length = m + vs.length := by rw [List.length_append]; omega
  have hm : m = l.length := by
    have h1 := h.1
    rw [hD, packB_ps] at h1
    exact (put_front h1).1.symm
  have hps := psS_len l
  obtain ⟨_, e2, e3⟩ := at_split h (hD.trans (packB_ps l)) (by omega)
  have hlt : (us ++ vs).length < (psS l).length := by omega
  rw [List.drop_eq_getElem_cons hlt, byS_cons] at e3
  have := readV_some (D := D.drop a) (m := (psS l)[(us ++ vs).length]) ⟨psS_fit hl _ (List.getElem_mem hlt), _, e3⟩
  rw [hr] at this; cases this

/-- Samples that a chunk holds. -/
def GC (c : Chk) (l : List Smp) : Prop := FitS l ∧ pkB l = true ∧ pkC l = c
theorem GC.one {c : Chk} {l l' : List Smp} (h : GC c l) (h' : GC c l') : l = l' := pkC_one h.1 h'.1 (h.2.2.trans h'.2.2.symm)
theorem GC.len {c : Chk} {l : List Smp} (h : GC c l) : l.length ≤ 8 := (pkB_fit h.2.1).1
theorem GC.zero {l : List Smp} (h : GC zeroC l) : l = [] := pkC_one h.1 (fun x hx => by simp at hx) (by rw [h.2.2]; rfl)
theorem GC.bytes {c : Chk} {l : List Smp} (h : GC c l) (hc : c ≠ zeroC) : c.1.data.toList = packB l := by
  have hp : 0 < l.length := by
    rcases Nat.eq_zero_or_pos l.length with h0 | h0
    · exfalso
      apply hc
      rw [← h.2.2, List.eq_nil_of_length_eq_zero h0]; rfl
    · exact h0
  rw [← h.2.2, pkC_some hp]
  simp [strP]
theorem gc_nil : GC zeroC [] := ⟨fun x hx => by simp at hx, by decide, rfl⟩
open Classical in
noncomputable def soB (c : Chk) : Bool := if ∃ l, GC c l then true else false
open Classical in
noncomputable def soL (c : Chk) : List Smp := if h : ∃ l, GC c l then h.choose else []
theorem so_no {c : Chk} (h : ∀ l, ¬ GC c l) : soB c = false ∧ soL c = [] := by
  have h' : ¬ ∃ l, GC c l := fun ⟨l, hl⟩ => h l hl
  unfold soB soL
  rw [if_neg h', dif_neg h']
  exact ⟨rfl, rfl⟩
theorem so_yes {c : Chk} {l : List Smp} (h : GC c l) : soB c = true ∧ soL c = l := by
  have h' : ∃ l, GC c l := ⟨l, h⟩
  unfold soB soL
  rw [if_pos h', dif_pos h']
  exact ⟨rfl, h'.choose_spec.one h⟩
theorem so_is {c : Chk} (h : soB c = true) : GC c (soL c) := by
  by_cases h' : ∃ l, GC c l
  · obtain ⟨l, hl⟩ := h'
    rw [(so_yes hl).2]; exact hl
  · rw [(so_no fun l hl => h' ⟨l, hl⟩).1] at h; cases h
theorem so_not {c : Chk} (h : soB c = false) : soL c = [] := by
  by_cases h' : ∃ l, GC c l
  · obtain ⟨l, hl⟩ := h'
    rw [(so_yes hl).1] at h; cases h
  · exact (so_no fun l hl => h' ⟨l, hl⟩).2
theorem so_fit (c : Chk) : FitS (soL c) ∧ (soL c).length ≤ 8 := by
  by_cases h : soB c = true
  · exact ⟨(so_is h).1, (so_is h).len⟩
  · rw [so_not (by simpa using h)]
    exact ⟨fun x hx => by simp at hx, by simp⟩
end Go.Proofs.Yteiefngamccapaa
namespace Go.Proofs.Yteiefngamccapaa

/-- The samples of chunks, one behind the other. -/
noncomputable def serL (cs : List Chk) : List Smp := cs.flatMap soL
noncomputable def allB (cs : List Chk) : Bool := cs.all soB
theorem serL_nil : serL [] = [] := rfl
theorem serL_snoc {cs : List Chk} {k : Nat} (h : k < cs.length) : serL (cs.take (k + 1)) = serL (cs.take k) ++ soL cs[k] := by
  unfold serL
  rw [List.take_succ_eq_append_getElem h, List.flatMap_append]
  simp
theorem serL_all (cs : List Chk) : serL (cs.take cs.length) = serL cs := by rw [List.take_length]
theorem serL_fit (cs : List Chk) : FitS (serL cs) := fun x hx => by
  unfold serL at hx
  rw [List.mem_flatMap] at hx
  obtain ⟨c, _, h⟩ := hx
  exact (so_fit c).1 x h
theorem serL_len : ∀ cs : List Chk, (serL cs).length ≤ cs.length * 8
  | [] => by simp [serL]
  | c :: cs => by
    have h1 := serL_len cs
    have h2 := (so_fit c).2
    unfold serL at h1 ⊢
    rw [List.flatMap_cons, List.length_append, List.length_cons]
    omega
theorem serL_take_len {cs : List Chk} (k : Nat) (h : cs.length ≤ 6) : (serL (cs.take k)).length ≤ 48 := by
  have := serL_len (cs.take k)
  rw [List.length_take] at this
  omega
def allTo (cs : List Chk) (k : Nat) : Prop := ∀ i (h : i < cs.length), i < k → soB cs[i] = true
theorem allTo_zero (cs : List Chk) : allTo cs 0 := fun i _ h => absurd h (by omega)
theorem allTo_succ {cs : List Chk} {k : Nat} (h : allTo cs k) (hk : ∀ h : k < cs.length, soB cs[k] = true) : allTo cs (k + 1) := fun i hi hik => by
  by_cases e : i = k
  · subst e; exact hk hi
  · exact h i hi (by omega)
theorem allB_yes {cs : List Chk} (h : allTo cs cs.length) : allB cs = true := by
  unfold allB
  rw [List.all_eq_true]
  intro c hc
  obtain ⟨i, hi, rfl⟩ := List.getElem_of_mem hc
  exact h i hi hi
theorem allB_at {cs : List Chk} (h : allB cs = true) {k : Nat} (hk : k < cs.length) : soB cs[k] = true := by
  unfold allB at h
  rw [List.all_eq_true] at h
  exact h _ (List.getElem_mem hk)
theorem allB_no {cs : List Chk} {k : Nat} (hk : k < cs.length) (h : soB cs[k] = false) : allB cs = false := by
  cases ha : allB cs with
  | false => rfl
  | true => rw [allB_at ha hk] at h; cases h

/-- How many the chunk at a place says that it holds. -/
def mF (cs : List Chk) (i : Nat) : Int := (cs[i]?.getD zeroC).2.1
theorem mF_at {cs : List Chk} {i : Nat} (h : i < cs.length) : cs[i].2.1 = mF cs i := by simp [mF, h]
/-- A chunk other than the last one is empty. -/
def emB (cs : List Chk) : Bool := (List.range (cs.length - 1)).any fun i => decide (mF cs i = 0)
def emTo (cs : List Chk) (k : Nat) : Prop := ∀ i, i < k → i + 1 < cs.length → mF cs i ≠ 0
theorem emTo_zero (cs : List Chk) : emTo cs 0 := fun i h => absurd h (by omega)
theorem emTo_succ {cs : List Chk} {k : Nat} (h : emTo cs k) (hk : k + 1 < cs.length → mF cs k ≠ 0) : emTo cs (k + 1) := fun i hi hl => by
  by_cases e : i = k
  · subst e; exact hk hl
  · exact h i (by omega) hl
theorem emB_no {cs : List Chk} {k : Nat} (h : emTo cs k) (hk : cs.length ≤ k + 1) : emB cs = false := by
  unfold emB
  rw [List.any_eq_false]
  intro i hi
  rw [List.mem_range] at hi
  simpa using h i (by omega) (by omega)
theorem emB_yes {cs : List Chk} {i : Nat} (h : i + 1 < cs.length) (hm : mF cs i = 0) : emB cs = true := by
  unfold emB
  rw [List.any_eq_true]
  exact ⟨i, by rw [List.mem_range]; omega, by simpa using hm⟩
theorem emB_at {cs : List Chk} (h : emB cs = false) {i : Nat} (hi : i + 1 < cs.length) : mF cs i ≠ 0 := fun e => by rw [emB_yes hi e] at h; cases h

/-- Whether a series is good. -/
noncomputable def gsB (cs : List Chk) (fl : Int) : Bool := decide (cs.length ≤ 6) && (decide (-1000000 ≤ fl) && decide (fl ≤ 1000000)) && !emB cs && allB cs && goodS (serL cs) && (decide ((serL cs).length = 0) || decide (fl ≤ tF (serL cs) 0))
theorem gs_long {cs : List Chk} {fl : Int} (h : 6 < cs.length) : gsB cs fl = false := by
  unfold gsB; rw [decide_eq_false (by omega)]; simp
theorem gs_floor {cs : List Chk} {fl : Int} (h : (decide (-1000000 ≤ fl) && decide (fl ≤ 1000000)) = false) : gsB cs fl = false := by
  unfold gsB; rw [h]; simp
theorem gs_em {cs : List Chk} {fl : Int} (h : emB cs = true) : gsB cs fl = false := by unfold gsB; rw [h]; simp
theorem gs_all {cs : List Chk} {fl : Int} (h : allB cs = false) : gsB cs fl = false := by unfold gsB; rw [h]; simp
theorem gs_good {cs : List Chk} {fl : Int} (h : goodS (serL cs) = false) : gsB cs fl = false := by unfold gsB; rw [h]; simp
theorem gs_first {cs : List Chk} {fl : Int} (h : 0 < (serL cs).length) (h2 : tF (serL cs) 0 < fl) : gsB cs fl = false := by
  unfold gsB; rw [decide_eq_false (by omega : ¬ (serL cs).length = 0), decide_eq_false (by omega : ¬ fl ≤ tF (serL cs) 0)]; simp
theorem gs_yes {cs : List Chk} {fl : Int} (h1 : cs.length ≤ 6) (h2 : (decide (-1000000 ≤ fl) && decide (fl ≤ 1000000)) = true) (h3 : emB cs = false) (h4 : allB cs = true) (h5 : goodS (serL cs) = true) (h6 : (serL cs).length = 0 ∨ fl ≤ tF (serL cs) 0) : gsB cs fl = true := by
  unfold gsB; rw [decide_eq_true h1, h2, h3, h4, h5]
  rcases h6 with h | h
  · rw [decide_eq_true h]; rfl
  · rw [decide_eq_true h]; simp
structure GS (cs : List Chk) (fl : Int) : Prop where
  len : cs.length ≤ 6
  lo : -1000000 ≤ fl
  hi : fl ≤ 1000000
  em : emB cs = false
  all : allB cs = true
  good : goodS (serL cs) = true
  first : (serL cs).length = 0 ∨ fl ≤ tF (serL cs) 0
theorem gs_is {cs : List Chk} {fl : Int} (h : gsB cs fl = true) : GS cs fl := by
  unfold gsB at h
  simp only [Bool.and_eq_true, Bool.or_eq_true, decide_eq_true_eq, Bool.not_eq_true'] at h
  obtain ⟨⟨⟨⟨⟨h1, h2, h3⟩, h4⟩, h5⟩, h6⟩, h7⟩ := h
  exact ⟨h1, h2, h3, h4, h5, h6, h7⟩
theorem gs_of {cs : List Chk} {fl : Int} (h : GS cs fl) : gsB cs fl = true := gs_yes h.len (by simp [h.lo, h.hi]) h.em h.all h.good h.first
/-- What a chunk that holds samples says of them. -/
theorem so_many {c : Chk} (h : soB c = true) : c.2.1 = (soL c).length := by
  have hg := so_is h
  rcases Nat.eq_zero_or_pos (soL c).length with h0 | h0
  · have : soL c = [] := List.eq_nil_of_length_eq_zero h0
    rw [h0]
    rw [this] at hg
    rw [← hg.2.2]; rfl
  · conv => lhs; rw [← hg.2.2, pkC_some h0]
theorem so_last {c : Chk} (h : soB c = true) (h0 : 0 < (soL c).length) : c.2.2.2 = tF (soL c) ((soL c).length - 1) := by
  have hg := so_is h
  conv => lhs; rw [← hg.2.2, pkC_some h0]
end Go.Proofs.Yteiefngamccapaa
namespace Go.Proofs.Yteiefngamccapaa
open Go.RowKit Go.Deep

set_option maxHeartbeats 2000000 in
set_option maxRecDepth 100000 in
theorem emAh (ao : Option Addr) (cap : Nat) (l : List Chk) (hn : l.length ≤ 1048576) (w : World) (h : CRow w w.heap.size ao l) :
    Calls Try.prog 49 #[.slice ao l.length cap] w fun e w' => e = .returned (.bool (emB l)) ∧ w' = w := by
  have H := Lib.hid h
  have HNo := Lib.hid (fun (k : Nat) (h : emTo l k) (hk : l.length ≤ k + 1) => emB_no h hk)
  have HYes := Lib.hid (fun (k : Nat) (h : k + 1 < l.length) (hm : mF l k = 0) => emB_yes h hm)
  generalize emB l = g at HNo HYes ⊢
  clear h
  go_enter Try.func49, Try.ntmps49
  go_wp2
  go_loopw [3] (fun i wr => ∃ k : Nat, k ≤ l.length ∧ i = .int .i64 ((k + 1 : Nat) : Int) ∧ wr = w ∧ Hid (emTo l k)) (fun i _ => l.length - (intOf i).toNat)
  case atStart => exact ⟨0, Nat.zero_le _, rfl, rfl, Lib.hid (emTo_zero l)⟩
  case round =>
    obtain ⟨k, hk, rfl, rfl, hE⟩ := hrel
    by_cases hlt : k + 1 < l.length
    · obtain ⟨b, off, hao, hbl, hc0, hc1, hc2, hc3⟩ := H.out.oneC (show k < l.length by omega)
      subst hao
      rw [mF_at (show k < l.length by omega)] at hc1
      clear hc0 hc2 hc3
      have HS := Lib.hid (fun h => emTo_succ hE.out (fun _ => h))
      have HY := Lib.hid (HYes.out k hlt)
      generalize mF l k = m at hc1 HS HY
      by_cases hm : m = 0
      · have hg := Lib.hid (HY.out hm)
        subst hm
        go_wp2
        go_ret
        exact ⟨ret_bool hg.out.symm, rfl⟩
      · have HS2 := Lib.hid (HS.out hm)
        have hmb : (m == 0) = false := beq_eq_false_iff_ne.2 hm
        go_wp2
        go_roundw
        case rel => exact ⟨k + 1, by omega, by go_num, by trivial, HS2⟩
        case measure => simp [intOf]; omega
    · have hg := Lib.hid (HNo.out k hE.out (by omega))
      go_wp2
      go_ret
      exact ⟨ret_bool hg.out.symm, rfl⟩

end Go.Proofs.Yteiefngamccapaa
namespace Go.Proofs.Yteiefngamccapaa
open Go.RowKit Go.Deep

/-- Block g holds N cells; the first n of them are the numbers f. -/
def RF (w : World) (g : Nat) (t : TypeId) (N n : Nat) (f : Nat → Int) : Prop := n ≤ N ∧ ∃ F : Nat → Value, (∀ i, i < n → F i = .int .i64 (f i)) ∧ w.rowIs g t N F
theorem RF.cell {w : World} {g : Nat} {t : TypeId} {N n : Nat} {f : Nat → Int} (h : RF w g t N n f) {i : Nat} (hi : i < n) : w.cell? ⟨g, i, none⟩ = some (.int .i64 (f i)) := by
  obtain ⟨hn, F, hF, hr⟩ := h
  rw [hr.cell (by omega), hF i hi]
theorem RF.frozen {w : World} {g : Nat} {t : TypeId} {N n : Nat} {f : Nat → Int} (h : RF w g t N n f) (i : Nat) : w.frozen? ⟨g, i, none⟩ = false := by
  obtain ⟨_, F, _, hr⟩ := h
  exact hr.frozen i
theorem RF.lt {w : World} {g : Nat} {t : TypeId} {N n : Nat} {f : Nat → Int} (h : RF w g t N n f) : g < w.heap.size := by
  obtain ⟨_, F, _, hr⟩ := h
  exact hr.lt
theorem RF.congr {w : World} {g : Nat} {t : TypeId} {N n : Nat} {f f' : Nat → Int} (h : RF w g t N n f) (he : ∀ i, i < n → f i = f' i) : RF w g t N n f' := by
  obtain ⟨hn, F, hF, hr⟩ := h
  exact ⟨hn, F, fun i hi => by rw [hF i hi, he i hi], hr⟩
theorem RF.set {w : World} {g : Nat} {t : TypeId} {N n : Nat} {f : Nat → Int} (h : RF w g t N n f) (i : Nat) (z : Int) : RF (w.setCell ⟨g, i, none⟩ (.int .i64 z)) g t N n (fun j => if j = i then z else f j) := by
  obtain ⟨hn, F, hF, hr⟩ := h
  refine ⟨hn, _, fun j hj => ?_, hr.set i (.int .i64 z)⟩
  by_cases e : j = i
  · simp [e]
  · simp [e, hF j hj]
theorem RF.of_block {w w' : World} {g : Nat} {t : TypeId} {N n : Nat} {f : Nat → Int} (h : RF w g t N n f) (e : w'.heap[g]? = w.heap[g]?) : RF w' g t N n f := by
  obtain ⟨hn, F, hF, hr⟩ := h
  exact ⟨hn, F, hF, hr.of_block e⟩
theorem RF.drew {w : World} {g : Nat} {t : TypeId} {N n : Nat} {f : Nat → Int} (h : RF w g t N n f) : RF w.drew g t N n f := h.of_block rfl
theorem RF.less {w : World} {g : Nat} {t : TypeId} {N n m : Nat} {f : Nat → Int} (h : RF w g t N n f) (hm : m ≤ n) : RF w g t N m f := by
  obtain ⟨hn, F, hF, hr⟩ := h
  exact ⟨by omega, F, fun i hi => hF i (by omega), hr⟩

/-- What toSteps does from place k on. -/
def difF (f : Nat → Int) (off n k : Nat) (j : Nat) : Int := if off + k < j ∧ j < off + n then RowKit.wrap64 (f j - f (j - 1)) else f j
theorem dif_step {f : Nat → Int} {off n k : Nat} (hk : k + 1 < n) (j : Nat) : (if j = off + (k + 1) then RowKit.wrap64 (f (off + (k + 1)) - f (off + k)) else difF f off n (k + 1) j) = difF f off n k j := by
  unfold difF
  by_cases e : j = off + (k + 1)
  · subst e
    rw [if_pos rfl, if_pos ⟨by omega, by omega⟩, show off + (k + 1) - 1 = off + k by omega]
  · rw [if_neg e]
    by_cases h : off + k < j ∧ j < off + n
    · rw [if_pos h, if_pos ⟨by omega, h.2⟩]
    · rw [if_neg h, if_neg (fun h' => h ⟨by omega, h'.2⟩)]

def SetB (B : Nat) (w w' : World) : Prop := Below B w w' ∧ w'.heap.size = w.heap.size
theorem SetB.refl (B : Nat) (w : World) : SetB B w w := ⟨Below.refl _ _, rfl⟩
theorem SetB.step {B g i : Nat} {w w' : World} (h : SetB B w w') (hg : B ≤ g) (v : Value) : SetB B w (w'.drew.setCell ⟨g, i, none⟩ v) :=
  ⟨(h.1.drew).setCell (p := ⟨g, i, none⟩) hg v, by simpa using h.2⟩

theorem steps_small (ao : Option Addr) (n c : Nat) (hn : n ≤ 1) (w : World) : Calls Try.prog 122 #[.slice ao n c] w fun e w' => (∃ v, e = .returned v) ∧ w' = w := by
  by_cases h0 : n = 0
  · subst h0
    go_enter Try.func122, Try.ntmps122
    go_wp2
    go_loop [2] (fun i => i = .int .i64 (-1)) (fun _ => 0)
    case atStart => rfl
    case round =>
      obtain rfl := hrel
      go_wp2
      go_end0
      exact ⟨⟨_, rfl⟩, rfl⟩
  · obtain rfl : n = 1 := by omega
    go_enter Try.func122, Try.ntmps122
    go_wp2
    go_loop [2] (fun i => i = .int .i64 0) (fun _ => 0)
    case atStart => rfl
    case round =>
      obtain rfl := hrel
      go_wp2
      go_end0
      exact ⟨⟨_, rfl⟩, rfl⟩

set_option maxHeartbeats 2000000 in
set_option maxRecDepth 100000 in
theorem steps48 (g off n c N M B : Nat) (t : TypeId) (f : Nat → Int) (hn : 2 ≤ n) (hn2 : n ≤ 60) (hoff : off + n ≤ M) (hB : B ≤ g) (w : World) (h : RF w g t N M f) :
    Calls Try.prog 122 #[.slice (some ⟨g, off, none⟩) n c] w fun e w' => (∃ v, e = .returned v) ∧ RF w' g t N M (difF f off n 0) ∧ SetB B w w' := by
  have H := Lib.hid h
  clear h
  go_enter Try.func122, Try.ntmps122
  go_wp2
  go_loopw [2] (fun i wr => ∃ k : Nat, k + 1 ≤ n ∧ i = .int .i64 k ∧ Hid (RF wr g t N M (difF f off n k)) ∧ Hid (SetB B w wr)) (fun i _ => (intOf i).toNat)
  case atStart => exact ⟨n - 1, by omega, by go_num, Lib.hid (H.out.congr fun i hi => by unfold difF; rw [if_neg (by omega)]), Lib.hid (SetB.refl _ _)⟩
  case round =>
    obtain ⟨k, hk, rfl, hR, hS⟩ := hrel
    cases k with
    | zero =>
      go_wp2
      go_end0
      exact ⟨⟨_, rfl⟩, hR.out, hS.out⟩
    | succ k =>
      have c1 := hR.out.cell (i := off + (k + 1)) (by omega)
      have c0 := hR.out.cell (i := off + k) (by omega)
      have e1 : difF f off n (k + 1) (off + (k + 1)) = f (off + (k + 1)) := by unfold difF; rw [if_neg (by omega)]
      have e0 : difF f off n (k + 1) (off + k) = f (off + k) := by unfold difF; rw [if_neg (by omega)]
      rw [e1] at c1
      rw [e0] at c0
      have f1 := hR.out.frozen (off + (k + 1))
      have HR := Lib.hid ((hR.out.drew.set (off + (k + 1)) (RowKit.wrap64 (f (off + (k + 1)) - f (off + k)))).congr (fun j _ => dif_step (by omega) j))
      have HS := Lib.hid (hS.out.step (i := off + (k + 1)) hB (.int .i64 (RowKit.wrap64 (f (off + (k + 1)) - f (off + k)))))
      have hne : (off + (k + 1) == off + k) = false := by simp
      clear e0 e1
      generalize f (off + (k + 1)) = x1 at c1 HR HS
      generalize f (off + k) = x0 at c0 HR HS
      go_wp2
      go_region
      all_goals
        go_wp2
        go_roundw
        case rel => exact ⟨k, by omega, by go_num, HR, HS⟩
        case measure => simp [intOf]
end Go.Proofs.Yteiefngamccapaa
