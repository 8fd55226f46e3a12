/- Contract of PackSamples in the model, over this seat's translation. -/
import Derived.Test.YteiefngamccapaaPs
import Derived.Test.YteiefngamccapaaK5
import Derived.Test.YteiefngamccapaaK7
namespace Go.Proofs.Yteiefngamccapaa
open Go.RowKit Go.Deep

set_option maxHeartbeats 2000000 in
set_option maxRecDepth 100000 in
theorem pack24 (ao : Option Addr) (cap : Nat) (l : List Smp) (hF : FitS l) (hn : l.length ≤ 1048576) (w : World) (h : SRow w w.heap.size ao l) :
    Calls Try.prog 94 #[.slice ao l.length cap] w (PkEnd l w) := by
  have HB0 := Lib.hid ((Below.refl w.heap.size w).alloc (Nat.le_refl _) (.cells #[zS, zI, zI, zI] 85))
  have HX0 := Lib.hid (Bx.new w zS zI zI zI 85)
  have H := Lib.hid (h.after HB0.out)
  have HF := Lib.hid hF
  clear h hF
  by_cases h8 : 8 < l.length
  · have HN := Lib.hid (pk_no (pkB_long h8))
    go_enter Try.func94, Try.ntmps94
    go_wp2
    exact bodyPost_ret (v := .tuple #[.agg #[zS, zI, zI, zI], .bool false]) (by simp [results, Try.results94, go_sem]) rfl ⟨HN.out, HB0.out⟩
  go_enter Try.func94, Try.ntmps94
  go_wp2_with fail
  refine (good76 ao cap l HF.out hn _ H.out).mono ?_
  rintro e w1 ⟨rfl, hb1⟩
  have HB1 := Lib.hid (HB0.out.trans (hb1.mono HB0.out.size))
  have HX1 := Lib.hid (HX0.out.below hb1)
  have H1 := Lib.hid (H.out.after hb1)
  clear hb1
  by_cases hg : goodS l = true
  case neg =>
    have hg : goodS l = false := by simpa using hg
    have HN := Lib.hid (pk_no (pkB_bad hg))
    have hbs := HB1.out
    obtain ⟨z0, z1, z2, z3, f0, f1, f2, f3⟩ := HX1.out.cells
    go_wp2
    exact bodyPost_ret (v := .tuple #[.agg #[zS, zI, zI, zI], .bool false]) (by simp [results, Try.results94, go_sem, z0, z1, z2, z3]) rfl ⟨HN.out, (((hbs.setCell (Nat.le_refl _) _).setCell (Nat.le_refl _) _).setCell (Nat.le_refl _) _).setCell (Nat.le_refl _) _⟩
  have HK := Lib.hid (pkB_good (by omega) hg)
  have HY : Hid (Ending.returned (.tuple #[chV (pkC l), .bool true]) = .returned (.tuple #[chV (pkR l), .bool (pkB l)])) := Lib.hid (by rw [pkR_yes HK.out, HK.out])
  have HCall := Lib.hid (pack77 ao cap l HF.out (by omega) w1 H1.out)
  generalize pkC l = q at HY HCall
  obtain ⟨s, x, y, z⟩ := q
  unfold chV at HCall
  simp only at HCall
  go_wp2_with fail
  refine HCall.out.mono ?_
  rintro e w2 ⟨rfl, hb2⟩
  have hbs := HB1.out.trans (hb2.mono HB1.out.size)
  obtain ⟨z0, z1, z2, z3, f0, f1, f2, f3⟩ := (HX1.out.below hb2).cells
  clear hb2
  go_wp2
  exact bodyPost_ret (v := .tuple #[.agg #[.string s, .int .i64 x, .int .i64 y, .int .i64 z], .bool true]) (by simp [results, Try.results94, go_sem, z0, z1, z2, z3]) rfl ⟨HY.out, (((hbs.setCell (Nat.le_refl _) _).setCell (Nat.le_refl _) _).setCell (Nat.le_refl _) _).setCell (Nat.le_refl _) _⟩
end Go.Proofs.Yteiefngamccapaa
namespace Go.Proofs.Yteiefngamccapaa
open Go.RowKit Go.Deep

/-- What the model's reader of a chunk answers. -/
def TkS (c : Chk) (w : World) (e : Ending) (w' : World) : Prop :=
  ((∃ ao n cp, e = .returned (.tuple #[.slice ao n cp, .bool false]) ∧ n ≤ 60 ∧ ∀ l, ¬ GC c l) ∨
    ∃ (xs : List Smp) (ao : Option Addr) (cp : Nat), FitS xs ∧ xs.length ≤ 60 ∧ e = .returned (.tuple #[.slice ao xs.length cp, .bool true]) ∧ w'.ownsRow w.heap.size 42 2 (.slice ao xs.length cp) xs.length (cellsS xs) ∧ ∀ l, GC c l → l = xs) ∧ Below w.heap.size w w'
/-- What the loop keeps: us are the times, vs the values so far. -/
def TsInv (D : List UInt8) (w : World) (us vs : List Nat) (a : Nat) (v : Value) (wr : World) : Prop :=
  At D us.length (us ++ vs) a ∧ wr.ownsRow w.heap.size 42 2 v vs.length (cellsS (smpOf us vs)) ∧ Below w.heap.size w wr
theorem ts_step {D : List UInt8} {a u : Nat} {us vs : List Nat} {w w2 w3 : World} {v v' : Value} {o : Obj} {x : Int} {y : Nat} (hat : At D us.length (us ++ vs) a) (hst : Stands (D.drop a) u) (hlt : vs.length < us.length) (hx : at0 (decode us) vs.length = x) (hy : lastX (vs ++ [u]) = y)
    (ho : w2.ownsRow w.heap.size 42 2 v vs.length (cellsS (smpOf us vs))) (hb : Below w.heap.size w w2)
    (ho' : w3.ownsRow w.heap.size 42 2 v' (vs.length + 1) (cellsS (smpOf us vs) ++ [.int .i64 x, .float .f64 y])) (hg : (w2.alloc o).grownBy w3 v.ownBlock) : TsInv D w us (vs ++ [u]) (a + (putV u).length) v' w3 := by
  refine ⟨?_, ?_, own_grown (hb.alloc hb.size o) (ho.alloc o) hg (Nat.le_refl _)⟩
  · rw [← List.append_assoc]; exact at_next hat hst
  · rw [smpOf_snoc u hlt, hx, hy, cellsS_append, List.length_append]
    exact ho'
theorem new_two {w : World} {a b : Value} {t : TypeId} : ∀ j u, [a, b][j]? = some u → (w.alloc (.cells #[a, b] t)).cell? ((⟨w.heap.size, 0, none⟩ : Addr).add j) = some u := by
  intro j u hj
  match j, hj with
  | 0, hj => simp at hj; subst hj; simp [Addr.add]
  | 1, hj => simp at hj; subst hj; simp [Addr.add]
theorem bytes_same {a b : ByteArray} (h : a.toList = b.toList) : a = b := by
  rw [ByteArray.toList_eq, ByteArray.toList_eq] at h
  exact Go.WideShapes.bytes_inj h
theorem chk_ite {s s' : ByteArray} {a b c a' b' c' : Int} (h : ¬ ((s, a, b, c) : Chk) = (s', a', b', c')) (x y : Result Value) : (if s.toList = s'.toList then if a = a' then if b = b' then if c = c' then x else y else y else y else y) = y := by
  split
  · split
    · split
      · split
        · exfalso
          apply h
          rename_i h1 h2 h3 h4
          rw [bytes_same h1, h2, h3, h4]
        · rfl
      · rfl
    · rfl
  · rfl
theorem chk_ite0 {s : ByteArray} {a b c : Int} (h : ¬ ((s, a, b, c) : Chk) = zeroC) (x y : Result Value) : (if s.toList = [] then if a = 0 then if b = 0 then if c = 0 then x else y else y else y else y) = y := by
  have := chk_ite (s := s) (s' := ⟨#[]⟩) (a := a) (b := b) (c := c) (a' := 0) (b' := 0) (c' := 0) h x y
  have e : (⟨#[]⟩ : ByteArray).toList = [] := by rw [ByteArray.toList_eq]
  rwa [e] at this
theorem chk_zero {s : ByteArray} {a b c : Int} (h : ((s, a, b, c) : Chk) = zeroC) : s = ⟨#[]⟩ ∧ a = 0 ∧ b = 0 ∧ c = 0 := by
  unfold zeroC at h
  injection h with h1 h2
  injection h2 with h2 h3
  injection h3 with h3 h4
  exact ⟨h1, h2, h3, h4⟩
theorem own_less {w : World} {base base' : Nat} {e : TypeId} {s : Nat} {v : Value} {n : Nat} {xs : List Value} (h : w.ownsRow base e s v n xs) (hB : base' ≤ base) : w.ownsRow base' e s v n xs := by
  obtain ⟨h0, ⟨h1, h2⟩ | ⟨g, cap, cur, h1, hge, hr⟩⟩ := h
  · exact ⟨h0, .inl ⟨h1, h2⟩⟩
  · exact ⟨h0, .inr ⟨g, cap, cur, h1, Nat.le_trans hB hge, hr⟩⟩

set_option maxHeartbeats 4000000 in
set_option maxRecDepth 100000 in
theorem take82 (s : ByteArray) (c1 c2 c3 : Int) (hs : s.size ≤ 1048576) (w : World) : Calls Try.prog 84 #[.agg #[.string s, .int .i64 c1, .int .i64 c2, .int .i64 c3]] w (TkS (s, c1, c2, c3) w) := by
  have HB0 := Lib.hid ((Below.refl w.heap.size w).alloc (Nat.le_refl _) (.cells #[.string s, .int .i64 c1, .int .i64 c2, .int .i64 c3] 85))
  have HX0 := Lib.hid (Bx.new w (.string s) (.int .i64 c1) (.int .i64 c2) (.int .i64 c3) 85)
  by_cases hz : ((s, c1, c2, c3) : Chk) = zeroC
  · obtain ⟨rfl, rfl, rfl, rfl⟩ := chk_zero hz
    go_enter Try.func84, Try.ntmps84
    go_wp2
    go_ret2
    exact ⟨.inr ⟨[], none, 0, FitS.nil, by simp, rfl, World.ownsRow_nil _ _ _ _, fun l hl => GC.zero hl⟩, HB0.out⟩
  have hE := chk_ite0 hz
  have HG : Hid (∀ l, GC (s, c1, c2, c3) l → FitS l ∧ l.length ≤ 8 ∧ s.data.toList = packB l) := Lib.hid (fun l hl => ⟨hl.1, hl.len, hl.bytes hz⟩)
  have hlen : s.data.toList.length = s.size := rfl
  obtain ⟨i0, hi, hz0, hz1, hz2⟩ := info_parts Try.info42
  have HT56 := Lib.hid (fun W => take56 s hs W)
  have HR45 := Lib.hid (fun a ha W => read45 s a hs ha W)
  obtain ⟨D, hD⟩ : ∃ D, D = s.data.toList := ⟨_, rfl⟩
  rw [← hD] at HG hlen HT56 HR45
  clear hD hz
  go_enter Try.func84, Try.ntmps84
  go_wp2_with fail
  clear hE
  refine (HT56.out _).mono ?_
  rintro e w1 ⟨⟨rfl, hn⟩ | ⟨v, us, a, rfl, hat, h60, ho⟩, hb1⟩
  · have HN : Hid (∀ l, ¬ GC (s, c1, c2, c3) l) := Lib.hid (fun l hl => by
      obtain ⟨h1, h2, h3⟩ := HG.out l hl
      exact hn _ (h3 ▸ packB_front h1 (by omega)))
    have HB1 := Lib.hid (HB0.out.trans (hb1.mono HB0.out.size))
    clear hn hb1
    go_wp2
    go_ret2
    exact ⟨.inl ⟨_, _, _, rfl, by omega, HN.out⟩, HB1.out⟩
  rw [← decode_len us] at ho
  obtain ⟨bo, cp, rfl, hR⟩ := Row.of_own ho
  rw [decode_len us] at hR ⊢
  have HB1 := Lib.hid (HB0.out.trans (hb1.mono HB0.out.size))
  have HX1 := Lib.hid (HX0.out.below hb1)
  have HR := Lib.hid hR
  have HI : Hid (TsInv D w1 us [] a (.slice none 0 0) w1) := Lib.hid ⟨by rw [List.append_nil]; exact hat, by rw [smpOf_nil]; exact World.ownsRow_nil _ _ _ _, Below.refl _ _⟩
  have HIn := Lib.hid (decode_in hat.2.2)
  have HFit := Lib.hid hat.2.2
  clear hat ho hR hb1 HB0 HX0
  go_wp2
  go_loopw [5, 6, 7, 25] (fun ap v q i wr => ∃ (vs : List Nat) (a : Nat), vs.length ≤ us.length ∧ ap = .int .i64 a ∧ q = .int .u64 (lastX vs : Nat) ∧ i = .int .i64 vs.length ∧ Hid (TsInv D w1 us vs a v wr)) (fun _ _ _ i _ => us.length - (intOf i).toNat)
  case atStart => exact ⟨[], a, Nat.zero_le _, rfl, by rw [lastX_nil]; rfl, rfl, HI⟩
  case round =>
    obtain ⟨vs, a, hle, rfl, rfl, rfl, hI⟩ := hrel
    obtain ⟨hat, ho, hb⟩ := hI.out
    have hal := at_le hat
    have HA := Lib.hid hat; have HO := Lib.hid ho; have HB := Lib.hid hb
    obtain ⟨y0, y1, y2, y3, g0, g1, g2, g3⟩ := (HX1.out.below hb).cells
    clear hat ho hb hI HI y1 y2 y3 g0 g1 g2 g3
    by_cases hlt : vs.length < us.length
    · obtain ⟨g, t, N, hbo, _, hRF⟩ := HR.out.2 (by omega)
      subst hbo
      have c0 := (HB.out.cell (p := ⟨g, vs.length, none⟩) hRF.lt).trans (hRF.cell hlt)
      clear hRF
      obtain ⟨x, hx⟩ : ∃ x, x = at0 (decode us) vs.length := ⟨_, rfl⟩
      have HXx := Lib.hid hx.symm
      rw [← hx] at c0
      clear hx
      go_wp2_with fail
      refine (HR45.out a (by omega) _).mono ?_
      rintro e w2 ⟨⟨hn, rfl⟩ | ⟨u, hu, rfl⟩, hb2⟩
      · have HN : Hid (∀ l, ¬ GC (s, c1, c2, c3) l) := Lib.hid (fun l hl => by
          obtain ⟨h1, h2, h3⟩ := HG.out l hl
          exact read_stop HA.out rfl hlt hn h1 h3)
        have HB2 := Lib.hid (HB1.out.trans ((HB.out.trans (hb2.mono HB.out.size)).mono HB1.out.size))
        clear hn hb2
        go_wp2
        go_ret2
        exact ⟨.inl ⟨_, _, _, rfl, by omega, HN.out⟩, HB2.out⟩
      have hst := readV_is hu
      have HFl := Lib.hid (fun W => flip23 u hst.1 W)
      have HX := Lib.hid (xor_run (lastX_lt vs) (flipN_lt u))
      have HLs := Lib.hid (lastX_snoc vs u)
      have HO2 := Lib.hid (own_below HO.out hb2)
      have HB2 := Lib.hid (HB.out.trans (hb2.mono HB.out.size))
      have HStep := Lib.hid (fun (w3 : World) (v v' : Value) (o : Obj) (x : Int) (y : Nat) hx hy ho ho' hg => ts_step (w := w1) (w2 := w2) (w3 := w3) (v := v) (v' := v') (o := o) (x := x) (y := y) HA.out hst hlt hx hy ho HB2.out ho' hg)
      obtain ⟨E, hEE⟩ : ∃ E : Nat, E = a + (putV u).length := ⟨_, rfl⟩
      rw [← hEE] at HStep ⊢
      have hl0 : (vs ++ [u]).length = vs.length + 1 := by simp
      have HL0 := Lib.hid hl0
      clear hu hb2 hst hEE HO HB hl0 y0
      generalize flipN u = f at HFl HX HLs
      go_wp2_with fail
      refine (HFl.out _).mono ?_
      rintro e w3 ⟨rfl, rfl⟩
      have hxor := HX.out
      generalize lastX vs = p at HLs hxor ⊢
      rw [← HLs.out] at hxor
      have HYy := Lib.hid (rfl : lastX (vs ++ [u]) = lastX (vs ++ [u]))
      generalize hy : lastX (vs ++ [u]) = y at hxor HYy
      have HY2 := Lib.hid hy
      clear hy HYy HX HLs
      go_wp2_with fail
      refine (from40 (y : Int) _).mono ?_
      rintro e w4 ⟨rfl, rfl⟩
      rw [Int.toNat_natCast]
      go_wp2_with (at_builtin; refine wpList_append_own _ rfl _ _ 50 rfl w1.heap.size 42 i0 (.agg #[.int .i64 0, .float .f64 0]) 2 16 Try.underlying50 hi hz0 hz1 hz2 rfl (by decide) _ _ _ rfl (HO2.out.alloc _) ⟨w2.heap.size, 0, none⟩ 1 1 [.int .i64 x, .float .f64 y] rfl rfl new_two ?k2 ?k3 ?k4 ?k5 ?_)
      case k2 => intro u hu; simp at hu; rcases hu with rfl | rfl <;> rfl
      case k3 => unfold maxLen; omega
      case k4 => omega
      case k5 => have h1 := HB2.out.size; simp; omega
      intro v' w5 hown' hgrow _
      have HR5 := Lib.hid (HStep.out _ _ _ _ x y HXx.out HY2.out HO2.out hown' hgrow)
      clear hown' hgrow
      go_wp2
      go_roundw
      case rel => exact ⟨vs ++ [u], E, by rw [HL0.out]; omega, by go_num, by rw [HY2.out], by rw [HL0.out]; go_num, HR5⟩
      case measure => simp [intOf]; omega
    · have hm : vs.length = us.length := by omega
      have hlen2 := smpOf_len (us := us) (vs := vs) (by omega)
      have HO3 := Lib.hid (own_less HO.out (base' := w.heap.size) HB1.out.size)
      have HB3 := Lib.hid (HB1.out.trans (HB.out.mono HB1.out.size))
      obtain ⟨ao2, cp2, hv⟩ := own_slice HO.out
      subst hv
      rw [← hlen2] at HO3
      have HF2 := Lib.hid (smpOf_fit (us := us) (vs := vs) (fit_left HA.out.2.2))
      have HL2 := Lib.hid hlen2
      clear hlen2
      by_cases ha : a = s.size
      · have HY : Hid (∀ l, GC (s, c1, c2, c3) l → l = smpOf us vs) := Lib.hid (fun l hl => by
          obtain ⟨h1, h2, h3⟩ := HG.out l hl
          exact (read_back HA.out rfl hm h1 h3).1.symm)
        subst ha
        go_wp2_with fail
        go_quiet (fail)
        have HB4 := Lib.hid (below_drewN HB3.out nq)
        go_wp2
        go_ret2
        refine ⟨.inr ⟨smpOf us vs, ao2, cp2, HF2.out, by rw [HL2.out]; omega, by rw [HL2.out]; rfl, ?_, HY.out⟩, HB4.out⟩
        exact own_below HO3.out (below_drewN (Below.refl _ _) nq)
      · have HN : Hid (∀ l, ¬ GC (s, c1, c2, c3) l) := Lib.hid (fun l hl => by
          obtain ⟨h1, h2, h3⟩ := HG.out l hl
          have := (read_back HA.out rfl hm h1 h3).2
          omega)
        have hne : ((a : Int) == (s.size : Int)) = false := beq_eq_false_iff_ne.2 (by omega)
        go_wp2_with fail
        go_quiet (fail)
        have HB4 := Lib.hid (below_drewN HB3.out nq)
        go_wp2
        go_ret2
        exact ⟨.inl ⟨_, _, _, rfl, by omega, HN.out⟩, HB4.out⟩
end Go.Proofs.Yteiefngamccapaa
