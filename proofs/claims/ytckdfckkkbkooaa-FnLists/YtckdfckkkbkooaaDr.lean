/- Contracts of the model's draws of lists of numbers and of their bytes, over this seat's translation: something short in new memory, nothing that was there written. -/
import Derived.Test.YtckdfckkkbkooaaRf
import Derived.Test.YtckdfckkkbkooaaDraw
namespace Go.Proofs.Ytckdfckkkbkooaa
open Go.RowKit Go.Deep

set_option maxHeartbeats 2000000 in
set_option maxRecDepth 100000 in
theorem same30 (ao bo : Option Addr) (c d : Nat) (xs : List Int) (hn : xs.length ≤ 1048576) (w : World) (ha : IRow w w.heap.size ao xs) (hb : IRow w w.heap.size bo xs) :
    Calls Try.prog 19 #[.slice ao xs.length c, .slice bo xs.length d] w fun e w' => e = .returned (.bool true) ∧ Below w.heap.size w w' := by
  have HA := Lib.hid ha
  have HB := Lib.hid hb
  clear ha hb
  go_enter Try.func19, Try.ntmps19
  go_wp2
  go_loopw [13] (fun i wr => ∃ k : Nat, k ≤ xs.length ∧ i = .int .i64 k ∧ Hid (Below w.heap.size w wr)) (fun i _ => xs.length - (intOf i).toNat)
  case atStart => exact ⟨0, Nat.zero_le _, rfl, Lib.hid (Below.refl _ _)⟩
  case round =>
    obtain ⟨k, hk, rfl, hB⟩ := hrel
    by_cases hlt : k < xs.length
    · obtain ⟨b, off, hao, hbl, hc⟩ := HA.out.2 (by omega)
      obtain ⟨b', off', hao', hbl', hc'⟩ := HB.out.2 (by omega)
      subst hao hao'
      have c1 := (hB.out.cell (p := ⟨b, off + k, none⟩) hbl).trans (hc k hlt)
      have c2 := (hB.out.cell (p := ⟨b', off' + k, none⟩) hbl').trans (hc' k hlt)
      clear hc hc'
      generalize xs[k] = x at c1 c2
      go_wp2
      go_quiet (fail)
      have HD := Lib.hid (below_drewN2 hB.out nq)
      go_wp2
      go_roundw
      case rel => exact ⟨k + 1, by omega, by go_num, HD⟩
      case measure => simp [intOf]; omega
    · go_wp2
      go_ret
      exact ⟨rfl, hB.out⟩

/-- Some number of a short list. -/
def Among (w : World) (B : Nat) (ao : Option Addr) (n cap k j : Nat) (e : Ending) (w' : World) : Prop := ∃ z : Int, e = .returned (.int .i64 z) ∧ Drawn w w' B ao n cap k j
theorem among59 (w : World) (B : Nat) (ao : Option Addr) (n cap k g c : Nat) (h : Cur w B ao n cap k) (hn : n ≤ 1048576) (hk : k ≤ 9000000) (hg : B < g) (hc : ∀ i, i < 8 → ∃ z : Int, w.cell? ⟨g, i, none⟩ = some (.int .i64 z)) :
    Calls Try.prog 93 #[.pointer (some ⟨B, 0, none⟩), .slice (some ⟨g, 0, none⟩) 8 c] w (Among w B ao n cap k 1) := by
  have H := Lib.hid h
  have HC := Lib.hid hc
  clear h hc
  go_enter Try.func93, Try.ntmps93
  go_wp2_with fail
  refine (pick43 w B ao n cap k 8 H.out hn hk (by omega) (by omega)).mono ?_
  rintro e w1 ⟨r, hr0, hr1, rfl, hD⟩
  obtain ⟨i, rfl⟩ := Int.eq_ofNat_of_zero_le hr0
  have hi : i < 8 := by omega
  obtain ⟨z, hz⟩ := HC.out i hi
  have c0 := hD.2.cell hz (by simp; omega)
  have HD := Lib.hid hD
  clear hD hz
  go_wp2
  go_ret
  exact ⟨z, rfl, HD.out⟩
theorem fresh_eight (w : World) (t : TypeId) : ∀ i, i < 8 → ∃ z : Int, (w.alloc (.cells #[.int .i64 1, .int .i64 10, .int .i64 10, .int .i64 10, .int .i64 11, .int .i64 9, .int .i64 100, .int .i64 (-5)] t)).cell? ⟨w.heap.size, i, none⟩ = some (.int .i64 z) := by
  intro i hi
  have e := blk_alloc_new w (.cells #[.int .i64 1, .int .i64 10, .int .i64 10, .int .i64 10, .int .i64 11, .int .i64 9, .int .i64 100, .int .i64 (-5)] t)
  simp only [World.cell?, e]
  match i, hi with
  | 0, _ => exact ⟨_, rfl⟩
  | 1, _ => exact ⟨_, rfl⟩
  | 2, _ => exact ⟨_, rfl⟩
  | 3, _ => exact ⟨_, rfl⟩
  | 4, _ => exact ⟨_, rfl⟩
  | 5, _ => exact ⟨_, rfl⟩
  | 6, _ => exact ⟨_, rfl⟩
  | 7, _ => exact ⟨_, rfl⟩

/-- Some numbers were drawn. -/
def Listed (w : World) (B : Nat) (ao : Option Addr) (n cap k j : Nat) (e : Ending) (w' : World) : Prop :=
  ∃ (bo : Option Addr) (c : Nat) (xs : List Int), xs.length ≤ 8 ∧ (∀ x ∈ xs, In64 x) ∧ e = .returned (.slice bo xs.length c) ∧ Row w' bo xs.length c (at0 xs) w.heap.size ∧ Drawn w w' B ao n cap k j
def LInv (w : World) (B : Nat) (ao : Option Addr) (n cap K j : Nat) (v : Value) (wr : World) : Prop :=
  ∃ (xs : List Int) (k' : Nat), xs.length + j ≤ 8 ∧ k' ≤ K ∧ (∀ x ∈ xs, In64 x) ∧ wr.ownsRow w.heap.size 3 1 v xs.length (xs.map (Value.int .i64)) ∧ Cur wr B ao n cap k' ∧ w.grownBy wr (some B)
theorem l_append {w wr w2 : World} {B : Nat} {ao : Option Addr} {n cap k' : Nat} {v v' : Value} {x : Int} {xs : List Int} {o : Obj} (hB : B < w.heap.size) (hx : ∀ x ∈ xs, In64 x) (hx1 : In64 x)
    (hown : wr.ownsRow w.heap.size 3 1 v xs.length (xs.map (Value.int .i64))) (hg0 : w.grownBy wr (some B)) (hC : Cur wr B ao n cap k')
    (hown' : w2.ownsRow w.heap.size 3 1 v' (xs.length + 1) (xs.map (Value.int .i64) ++ [.int .i64 x])) (hgrow : (wr.alloc o).grownBy w2 v.ownBlock) :
    (∀ y ∈ xs ++ [x], In64 y) ∧ w2.ownsRow w.heap.size 3 1 v' (xs ++ [x]).length ((xs ++ [x]).map (Value.int .i64)) ∧ Cur w2 B ao n cap k' ∧ w.grownBy w2 (some B) := by
  have hge : ∀ g, v.ownBlock = some g → w.heap.size ≤ g := fun g hg => (hown.lt g hg).1
  refine ⟨?_, by simpa using hown', (hC.alloc o).kept hgrow (fun g hg => by have := hge g hg; omega), ?_⟩
  · intro y hy
    rcases List.mem_append.1 hy with hy | hy
    · exact hx y hy
    · rw [List.mem_singleton.1 hy]; exact hx1
  · exact (hg0.trans (World.grownBy_alloc _ _ _)).andThen hgrow (fun g hg => .inl (hge g hg))
theorem Row.other {w w' : World} {bo : Option Addr} {n c base B : Nat} {f : Nat → Int} (h : Row w bo n c f base) (hg : w.grownBy w' (some B)) (hB : B < base) : Row w' bo n c f base :=
  ⟨h.1, fun hp => by
    obtain ⟨g, t, N, e, hb, hR⟩ := h.2 hp
    exact ⟨g, t, N, e, hb, hR.of_block (hg.block g hR.lt (by simp; omega))⟩⟩
theorem at0_set {xs : List Int} {i : Nat} (hi : i < xs.length) (z : Int) (j : Nat) : (if j = i then z else at0 xs j) = at0 (xs.set i z) j := by
  unfold at0
  rw [List.getD_eq_getElem?_getD, List.getD_eq_getElem?_getD, List.getElem?_set]
  by_cases e : j = i
  · subst e; simp [hi]
  · rw [if_neg e, if_neg (fun h => e h.symm)]

set_option maxHeartbeats 4000000 in
set_option maxRecDepth 100000 in
theorem ints46 (w : World) (B : Nat) (ao : Option Addr) (n cap k : Nat) (h : Cur w B ao n cap k) (hn : n ≤ 1048576) (hk : k ≤ 1000000) :
    Calls Try.prog 61 #[.pointer (some ⟨B, 0, none⟩)] w (Listed w B ao n cap k 30) := by
  obtain ⟨i0, hi, hz0, hz1, hz2⟩ := info_parts Try.info3
  have H := Lib.hid h
  have hBw := h.lt
  clear h
  go_enter Try.func61, Try.ntmps61
  go_wp2_with fail
  refine (pick43 w B ao n cap k 100 H.out hn (by omega) (by decide) (by decide)).mono ?_
  rintro e w1 ⟨t0, ht0, ht1, rfl, ⟨k1, hk1, hC1⟩, hg1⟩
  have HC1 := Lib.hid hC1; have HG1 := Lib.hid hg1
  clear hC1 hg1
  go_wp2_with fail
  refine (pick43 w1 B ao n cap k1 9 HC1.out hn (by omega) (by decide) (by decide)).mono ?_
  rintro e w2 ⟨r, hr0, hr1, rfl, ⟨k2, hk2, hC2⟩, hg2⟩
  obtain ⟨j0, rfl⟩ := Int.eq_ofNat_of_zero_le hr0
  have HI : Hid (LInv w B ao n cap (k + 10 - j0) j0 (.slice none 0 0) w2) := Lib.hid ⟨[], k2, by simp; omega, by omega, fun x hx => by simp at hx, World.ownsRow_nil _ _ _ _, hC2, HG1.out.trans hg2⟩
  clear hC2 hg2 HC1 HG1
  go_wp2_with fail
  go_loopw [3, 4, 5] (fun v q i wr => ∃ (j : Nat) (t : Int), j ≤ 8 ∧ i = .int .i64 j ∧ q = .int .i64 t ∧ Hid (In64 t) ∧ Hid (LInv w B ao n cap (k + 10 - j) j v wr)) (fun _ _ i _ => (intOf i).toNat)
  case atStart => exact ⟨j0, t0, by omega, rfl, rfl, Lib.hid (by unfold In64; omega), HI⟩
  case round =>
    obtain ⟨j, t, hj, rfl, rfl, hT, hI⟩ := hrel
    obtain ⟨xs, k', hl, hk', hx, ho, hC, hg⟩ := hI.out
    have HX := Lib.hid hx; have HO := Lib.hid ho; have HC := Lib.hid hC; have HG := Lib.hid hg
    have hlt := hC.lt
    clear hx ho hC hg hI
    cases j with
    | succ j =>
      go_wp2_with (at_builtin; refine wpList_append_own _ rfl _ _ 24 rfl w.heap.size 3 i0 (.int .i64 0) 1 8 Try.underlying24 hi hz0 hz1 hz2 rfl (by decide) _ _ _ rfl (HO.out.alloc _) ⟨wr.heap.size, 0, none⟩ 1 1 [.int .i64 t] rfl rfl new_cell ?c2 ?c3 ?c4 ?c5 ?_)
      case c2 => intro u hu; simp at hu; subst hu; rfl
      case c3 => unfold maxLen; omega
      case c4 => omega
      case c5 => have h1 := HG.out.size; simp; omega
      intro v' w3 hown' hgrow _
      obtain ⟨hx3, ho3, hC3, hg3⟩ := l_append hBw HX.out hT.out HO.out HG.out HC.out hown' hgrow
      have HX3 := Lib.hid hx3; have HO3 := Lib.hid ho3; have HC3 := Lib.hid hC3; have HG3 := Lib.hid hg3
      have hl3 : (xs ++ [t]).length + j ≤ 8 := by simp; omega
      clear hx3 ho3 hC3 hg3 hown' hgrow HX HO HC HG
      generalize xs ++ [t] = ys at HX3 HO3 hl3
      go_wp2_with fail
      refine (among59 _ B ao n cap k' w3.heap.size 8 (HC3.out.alloc _) hn (by omega) HC3.out.lt (fresh_eight w3 3)).mono ?_
      rintro e w4 ⟨z, rfl, ⟨k4, hk4, hC4⟩, hg4⟩
      have HI4 : Hid (LInv w B ao n cap (k + 10 - j) j v' w4) := Lib.hid ⟨ys, k4, hl3, by omega, HX3.out, own_other (HO3.out.alloc _) hBw hg4, hC4, (HG3.out.trans (World.grownBy_alloc _ _ _)).trans hg4⟩
      clear hC4 hg4
      have HT4 := Lib.hid (wr_in (t + z))
      go_wp2
      go_roundw
      case rel => exact ⟨j, _, by omega, by go_num, rfl, HT4, HI4⟩
      case measure => simp [intOf]
    | zero =>
      obtain ⟨bo, c, rfl, hR⟩ := Row.of_own HO.out
      have HR := Lib.hid hR
      clear hR HO
      by_cases h0 : xs.length = 0
      · rw [h0] at HR ⊢
        go_wp2
        go_ret
        exact ⟨bo, c, [], by simp, by simp, rfl, by
          have hxs : xs = [] := List.eq_nil_of_length_eq_zero h0
          rw [hxs] at HR
          exact HR.out, ⟨k', by omega, HC.out⟩, HG.out⟩
      have hp : 0 < xs.length := by omega
      go_wp2_with fail
      refine (one42 _ B ao n cap k' 12 HC.out hn (by omega) (by decide) (by decide)).mono ?_
      rintro e w3 ⟨b, rfl, ⟨k3, hk3, hC3⟩, hg3⟩
      have HC3 := Lib.hid hC3; have HG3 := Lib.hid (HG.out.trans hg3); have HR3 := Lib.hid (HR.out.other hg3 hBw)
      clear hC3 hg3 HR HC HG
      cases b with
      | false =>
        go_wp2
        go_ret
        exact ⟨bo, c, xs, by omega, HX.out, rfl, HR3.out, ⟨k3, by omega, HC3.out⟩, HG3.out⟩
      | true =>
        go_wp2_with fail
        refine (pick43 _ B ao n cap k3 xs.length HC3.out hn (by omega) (by omega) (by omega)).mono ?_
        rintro e w4 ⟨r4, h40, h41, rfl, ⟨k4, hk4, hC4⟩, hg4⟩
        obtain ⟨i, rfl⟩ := Int.eq_ofNat_of_zero_le h40
        have hi4 : i < xs.length := by omega
        have HC4 := Lib.hid hC4; have HG4 := Lib.hid (HG3.out.trans hg4); have HR4 := Lib.hid (HR3.out.other hg4 hBw)
        clear hC4 hg4 HR3 HC3 HG3
        go_wp2_with fail
        refine (u64_37 _ B ao n cap k4 HC4.out hn (by omega)).mono ?_
        rintro e w5 ⟨u, hu, rfl, hD5⟩
        have hR5 := HR4.out.other hD5.2 hBw
        obtain ⟨g, ty, N, rfl, hb5, hF5⟩ := hR5.2 (by omega)
        have c0 := hF5.cell hi4
        have f0 := hF5.frozen i
        have HD5 := Lib.hid (Drawn.stored (Drawn.trans (k := k) (i := 12) (j := 11) HG4.out (by omega) hD5) hBw hb5 i (.int .i64 (RowKit.wrap64 u)))
        have HR5 : Hid (Row (w5.setCell ⟨g, i, none⟩ (.int .i64 (RowKit.wrap64 u))) (some ⟨g, 0, none⟩) (xs.set i (RowKit.wrap64 u)).length c (at0 (xs.set i (RowKit.wrap64 u))) w.heap.size) := by
          rw [List.length_set]
          exact Lib.hid ⟨hR5.1, fun _ => ⟨g, ty, N, rfl, hb5, (hF5.set i (RowKit.wrap64 u)).congr fun j _ => at0_set hi4 _ j⟩⟩
        have HX5 : Hid (∀ x ∈ xs.set i (RowKit.wrap64 u), In64 x) := Lib.hid (fun x hx => by
          rcases List.mem_or_eq_of_mem_set hx with hx | rfl
          · exact HX.out x hx
          · exact wr_in _)
        have HL5 : Hid ((xs.set i (RowKit.wrap64 u)).length = xs.length) := Lib.hid (List.length_set ..)
        clear hR5 hF5 hD5 hu
        go_wp2
        go_ret
        exact ⟨_, c, xs.set i (RowKit.wrap64 u), by rw [HL5.out]; omega, HX5.out, by rw [HL5.out]; rfl, HR5.out, by
          obtain ⟨⟨kk, h1, h2⟩, h3⟩ := HD5.out
          exact ⟨⟨kk, by omega, h2⟩, h3⟩⟩

def DrawnL (w : World) (e : Ending) (w' : World) : Prop :=
  ∃ (bo : Option Addr) (c : Nat) (xs : List Int), xs.length ≤ 61 ∧ e = .returned (.slice bo xs.length c) ∧ IRow w' w'.heap.size bo xs ∧ Below w.heap.size w w'

set_option maxHeartbeats 2000000 in
set_option maxRecDepth 100000 in
theorem draw26 (w : World) (ao : Option Addr) (n cap : Nat) (h : BRow w w.heap.size ao n) (hn : n ≤ 1048576) : Calls Try.prog 15 #[.slice ao n cap] w (DrawnL w) := by
  have HC0 := Lib.hid (cur_new w ao n cap h)
  clear h
  go_enter Try.func15, Try.ntmps15
  go_wp2_with fail
  refine (one42 _ _ ao n cap 0 30 HC0.out hn (by omega) (by decide) (by decide)).mono ?_
  rintro e w2 ⟨b, rfl, ⟨k2, hk2, hC2⟩, hg2⟩
  have HC2 := Lib.hid hC2; have HG2 := Lib.hid hg2
  clear hC2 hg2
  cases b with
  | false =>
    go_wp2_with fail
    refine (ints46 _ _ ao n cap k2 HC2.out hn (by omega)).mono ?_
    rintro e w3 ⟨bo, c, xs, hl, hx, rfl, hR, hD⟩
    have HR := Lib.hid (hR.irow hx); have HB := Lib.hid (below_cur (HG2.out.trans hD.2))
    clear hR hD hx
    go_wp2
    go_ret
    exact ⟨bo, c, xs, by omega, rfl, HR.out, HB.out⟩
  | true =>
    go_wp2_with fail
    refine (pick43 _ _ ao n cap k2 2 HC2.out hn (by omega) (by decide) (by decide)).mono ?_
    rintro e w3 ⟨r, hr0, hr1, rfl, hD⟩
    obtain ⟨i, rfl⟩ := Int.eq_ofNat_of_zero_le hr0
    have HB := Lib.hid (below_cur (HG2.out.trans hD.2))
    have hmk : ∀ w, (Instr.makeSlice 24 (.int .i64 (60 + (i : Int))) (.int .i64 (60 + (i : Int)))).run Try.prog w = .ok (.slice (some ⟨w.heap.size, 0, none⟩) (60 + i) (60 + i)) (w.alloc (.cells (madeCells #[.int .i64 0] (60 + i)) 3)) := by
      intro w
      have := run_make_row' (P := Try.prog) 24 3 (.int .i64 0) 8 Try.underlying24 Try.info3 rfl .i64 .i64 (60 + i) (by omega) (by omega) w
      simpa using this
    have HR : Hid (IRow (w3.alloc (.cells (madeCells #[.int .i64 0] (60 + i)) 3)) (w3.alloc (.cells (madeCells #[.int .i64 0] (60 + i)) 3)).heap.size (some ⟨w3.heap.size, 0, none⟩) (List.replicate (60 + i) 0)) := Lib.hid (by
      have h1 := (made_row w3 (60 + i)).congr (f' := at0 (List.replicate (60 + i) 0)) (fun j hj => by unfold at0; simp [List.getD, hj])
      have h2 : (List.replicate (60 + i) (0 : Int)).length = 60 + i := List.length_replicate ..
      refine RF.irow (t := 3) (N := 60 + i) (by rw [h2]; exact h1) (fun x hx => ?_)
      rw [List.eq_of_mem_replicate hx]; unfold In64; omega)
    clear hD
    go_wp2
    go_ret
    exact ⟨_, 60 + i, List.replicate (60 + i) 0, by rw [List.length_replicate]; omega, by rw [List.length_replicate]; rfl, HR.out, HB.out.alloc HB.out.size _⟩

def DrawnT (w : World) (e : Ending) (w' : World) : Prop := ∃ x : ByteArray, x.size ≤ 1000 ∧ e = .returned (.string x) ∧ Below w.heap.size w w'
theorem putF_size {l : List Int} (h : ∀ x ∈ l, In64 x) (hl : l.length ≤ 8) : (putF l).size ≤ 90 := by
  cases hf : fitsL l with
  | false => rw [putF_no hf]; decide
  | true =>
    rw [putF_yes hf, ← strK_all, strK_size]
    have := encK_len h (by omega) l.length
    omega
set_option maxHeartbeats 2000000 in
set_option maxRecDepth 100000 in
theorem draw31 (w : World) (ao : Option Addr) (n cap : Nat) (h : BRow w w.heap.size ao n) (hn : n ≤ 1048576) : Calls Try.prog 20 #[.slice ao n cap] w (DrawnT w) := by
  have HC0 := Lib.hid (cur_new w ao n cap h)
  clear h
  go_enter Try.func20, Try.ntmps20
  go_wp2_with fail
  refine (ints46 _ _ ao n cap 0 HC0.out hn (by omega)).mono ?_
  rintro e w1 ⟨bo, c, xs, hl, hx, rfl, hR, ⟨k1, hk1, hC1⟩, hg1⟩
  have HC1 := Lib.hid hC1; have HB1 := Lib.hid (below_cur hg1); have HR := Lib.hid (hR.irow hx)
  have hz := putF_size hx hl
  have HP := Lib.hid (fun W a c (hi : IRow W W.heap.size a xs) => putl28 a c xs (by omega) W hi)
  clear hC1 hg1 hR hx
  generalize putF xs = s at hz HP
  generalize fitsL xs = r at HP
  go_wp2_with fail
  refine (HP.out _ bo c HR.out).mono ?_
  rintro e w2 ⟨rfl, hb2⟩
  have HC2 := Lib.hid (HC1.out.below hb2); have HB2 := Lib.hid (HB1.out.trans (hb2.mono HB1.out.size))
  clear hb2
  go_wp2_with fail
  refine (one42 _ _ ao n cap k1 3 HC2.out hn (by omega) (by decide) (by decide)).mono ?_
  rintro e w3 ⟨b, rfl, ⟨k3, hk3, hC3⟩, hg3⟩
  have HC3 := Lib.hid hC3
  have HB3 := Lib.hid (HB2.out.grown hg3 HB2.out.size (fun k hk => by injection hk with hk; omega))
  clear hC3 hg3
  cases b with
  | false =>
    go_wp2
    go_ret
    exact ⟨s, by omega, rfl, HB3.out⟩
  | true =>
    go_wp2_with fail
    refine (spoilt55 s ⟨#[0, 1, 128]⟩ (by omega) (by decide) (by decide) _ _ ao n cap k3 HC3.out hn (by omega)).mono ?_
    rintro e w4 ⟨x4, hx4, rfl, _, hg4⟩
    have HB4 := Lib.hid (HB3.out.grown hg4 HB3.out.size (fun k hk => by injection hk with hk; omega))
    clear hg4
    go_wp2
    go_ret
    exact ⟨x4, by omega, rfl, HB4.out⟩
end Go.Proofs.Ytckdfckkkbkooaa
