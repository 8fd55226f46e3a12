/- Contracts of the model's draws of lists of references, over this seat's translation: something short in new memory, nothing that was there written. -/
import Derived.Test.YtgibjdmjemalcaaCuR
namespace Go.Proofs.Ytgibjdmjemalcaa
open Go.RowKit Go.Deep Go.ChangeShapes Go.WideShapes Go.ChangeAt

/-- A short list was drawn. -/
def RefsEnd (w : World) (B : Nat) (ao : Option Addr) (n cap k j : Nat) (e : Ending) (w' : World) : Prop :=
  ∃ (bo : Option Addr) (c : Nat) (xs : List Int), xs.length ≤ 7 ∧ (∀ x ∈ xs, In64 x) ∧ e = .returned (.slice bo xs.length c) ∧ IRow w' w'.heap.size bo xs ∧ (0 < xs.length → ∃ g, bo = some ⟨g, 0, none⟩ ∧ w.heap.size ≤ g) ∧ Drawn w w' B ao n cap k j
def RInv (w : World) (B : Nat) (ao : Option Addr) (n cap K j : Nat) (v : Value) (wr : World) : Prop :=
  ∃ (xs : List Int) (k' : Nat), xs.length + j ≤ 6 ∧ k' ≤ K ∧ (∀ x ∈ xs, In64 x) ∧ upR xs ∧ wr.ownsRow w.heap.size 3 1 v xs.length (xs.map (Value.int .i64)) ∧ Cur wr B ao n cap k' ∧ w.grownBy wr (some B)
theorem r_append {w wr w2 : World} {B : Nat} {ao : Option Addr} {n cap k' : Nat} {v v' : Value} {x : Int} {xs : List Int} {o : Obj} (hB : B < w.heap.size) (hx : ∀ x ∈ xs, In64 x) (hx1 : In64 x)
    (hown : wr.ownsRow w.heap.size 3 1 v xs.length (xs.map (Value.int .i64))) (hg0 : w.grownBy wr (some B)) (hC : Cur wr B ao n cap k')
    (hown' : w2.ownsRow w.heap.size 3 1 v' (xs.length + 1) (xs.map (Value.int .i64) ++ [.int .i64 x])) (hgrow : (wr.alloc o).grownBy w2 v.ownBlock) :
    (∀ y ∈ xs ++ [x], In64 y) ∧ w2.ownsRow w.heap.size 3 1 v' (xs ++ [x]).length ((xs ++ [x]).map (Value.int .i64)) ∧ Cur w2 B ao n cap k' ∧ w.grownBy w2 (some B) := by
  have hge : ∀ g, v.ownBlock = some g → w.heap.size ≤ g := fun g hg => (hown.lt g hg).1
  refine ⟨?_, by simpa using hown', (hC.alloc o).kept hgrow (fun g hg => by have := hge g hg; omega), ?_⟩
  · intro y hy
    rcases List.mem_append.1 hy with hy | hy
    · exact hx y hy
    · rw [List.mem_singleton.1 hy]; exact hx1
  · exact (hg0.trans (World.grownBy_alloc _ _ _)).andThen hgrow (fun g hg => .inl (hge g hg))
theorem refs_end {w w' : World} {B : Nat} {ao : Option Addr} {n cap k j k' : Nat} {v : Value} {xs : List Int} (hl : xs.length ≤ 7) (hx : ∀ x ∈ xs, In64 x) (ho : w'.ownsRow w.heap.size 3 1 v xs.length (xs.map (Value.int .i64))) (hk : k' ≤ k + j) (hC : Cur w' B ao n cap k') (hg : w.grownBy w' (some B)) :
    RefsEnd w B ao n cap k j (.returned v) w' := by
  obtain ⟨po, pc, rfl⟩ := own_slice ho
  refine ⟨po, pc, xs, hl, hx, rfl, irow_own hx ho, fun hp => ?_, ⟨k', hk, hC⟩, hg⟩
  obtain ⟨g, t, N, e, hb, _⟩ := (row_own ho).2 hp
  exact ⟨g, e, hb⟩
theorem fresh_three (w : World) (t : TypeId) : ∀ i, i < 3 → ∃ z : Int, In64 z ∧ (w.alloc (.cells #[.int .i64 0, .int .i64 999, .int .i64 1000] t)).cell? ⟨w.heap.size, i, none⟩ = some (.int .i64 z) := by
  intro i hi
  have e := blk_alloc_new w (.cells #[.int .i64 0, .int .i64 999, .int .i64 1000] t)
  simp only [World.cell?, e]
  match i, hi with
  | 0, _ => exact ⟨_, by unfold In64; omega, rfl⟩
  | 1, _ => exact ⟨_, by unfold In64; omega, rfl⟩
  | 2, _ => exact ⟨_, by unfold In64; omega, rfl⟩

set_option maxHeartbeats 4000000 in
set_option maxRecDepth 100000 in
theorem refsC (w : World) (B : Nat) (ao : Option Addr) (n cap k : Nat) (h : Cur w B ao n cap k) (hn : n ≤ 1048576) (hk : k ≤ 1000000) :
    Calls Try.prog 15 #[.pointer (some ⟨B, 0, none⟩)] w (RefsEnd w B ao n cap k 10) := by
  obtain ⟨i0, hi, hz0, hz1, hz2⟩ := info_parts Try.info3
  have H := Lib.hid h
  have hBw := h.lt
  clear h
  go_enter Try.func15, Try.ntmps15
  go_wp2_with fail
  refine (pickC w B ao n cap k 6 H.out hn (by omega) (by decide) (by decide)).mono ?_
  rintro e w1 ⟨t0, ht0, ht1, rfl, ⟨k1, hk1, hC1⟩, hg1⟩
  obtain ⟨j0, rfl⟩ := Int.eq_ofNat_of_zero_le ht0
  have HI : Hid (RInv w B ao n cap (k + 7 - j0) j0 (.slice none 0 0) w1) := Lib.hid ⟨[], k1, by simp; omega, by omega, fun x hx => by simp at hx, upR_nil, World.ownsRow_nil _ _ _ _, hC1, hg1⟩
  clear hC1 hg1
  go_wp2
  go_loopw [3, 4] (fun v i wr => ∃ j : Nat, j ≤ 6 ∧ i = .int .i64 j ∧ Hid (RInv w B ao n cap (k + 7 - j) j v wr)) (fun _ i _ => (intOf i).toNat)
  case atStart => exact ⟨j0, by omega, rfl, HI⟩
  case round =>
    obtain ⟨j, hj, rfl, hI⟩ := hrel
    obtain ⟨xs, k', hl, hk', hx, hu, ho, hC, hg⟩ := hI.out
    obtain ⟨po, pc, hv⟩ := own_slice ho
    subst hv
    have HX := Lib.hid hx; have HU := Lib.hid hu; have HO := Lib.hid ho; have HC := Lib.hid hC; have HG := Lib.hid hg
    clear hx hu ho hC hg hI
    cases j with
    | succ j =>
      go_wp2_with fail
      refine (pickC _ B ao n cap k' 9 HC.out hn (by omega) (by decide) (by decide)).mono ?_
      rintro e w2 ⟨x, hx0, hx1, rfl, ⟨k2, hk2, hC2⟩, hg2⟩
      have HO2 := Lib.hid (own_other HO.out hBw hg2); have HC2 := Lib.hid hC2; have HG2 := Lib.hid (HG.out.trans hg2)
      have hxx : In64 x := by unfold In64; omega
      clear hC2 hg2 HO HC HG
      obtain ⟨f1, f2, f3⟩ := own_form HO2.out
      have HP := Lib.hid (putM po pc xs x (by omega) HU.out f1 f2 f3 _ (irow_own HX.out HO2.out))
      unfold PutEnd at HP
      clear f1 f2 f3
      go_wp2_with fail
      refine HP.out.mono ?_
      rintro e w3 (⟨hm, rfl, rfl⟩ | ⟨_, ⟨⟨qo, qc, rfl, ho3⟩, hb3⟩⟩)
      · have HI3 : Hid (RInv w B ao n cap (k + 7 - j) j (.slice po xs.length pc) w2) := Lib.hid ⟨xs, k2, by omega, by omega, HX.out, HU.out, HO2.out, HC2.out, HG2.out⟩
        clear hm
        go_wp2
        go_roundw
        case rel => exact ⟨j, by omega, by go_num, HI3⟩
        case measure => simp [intOf]
      · have HI3 : Hid (RInv w B ao n cap (k + 7 - j) j (.slice qo (putR xs x).length qc) w3) := Lib.hid ⟨putR xs x, k2, by have := putR_len xs x; omega, by omega, putR_in HX.out hxx, upR_put x HU.out, own_lower ho3 HG2.out.size, HC2.out.below hb3, HG2.out.trans (gb_below hb3)⟩
        clear ho3 hb3
        generalize (putR xs x).length = q at HI3 ⊢
        go_wp2
        go_roundw
        case rel => exact ⟨j, by omega, by go_num, HI3⟩
        case measure => simp [intOf]
    | zero =>
      go_wp2_with fail
      refine (oneC _ B ao n cap k' 30 HC.out hn (by omega) (by decide) (by decide)).mono ?_
      rintro e w2 ⟨b, rfl, ⟨k2, hk2, hC2⟩, hg2⟩
      have HO2 := Lib.hid (own_other HO.out hBw hg2); have HC2 := Lib.hid hC2; have HG2 := Lib.hid (HG.out.trans hg2)
      clear hC2 hg2 HO HC HG
      cases b with
      | false =>
        have HE := Lib.hid (refs_end (k := k) (j := 10) (by omega) HX.out HO2.out (by omega) HC2.out HG2.out)
        go_wp2
        go_ret
        exact HE.out
      | true =>
        have hC3 := HC2.out.alloc (.cells #[.int .i64 0, .int .i64 999, .int .i64 1000] 3)
        have HC3 := Lib.hid hC3
        have HO3 := Lib.hid (HO2.out.alloc (.cells #[.int .i64 0, .int .i64 999, .int .i64 1000] 3))
        have HG3 := Lib.hid (HG2.out.trans (World.grownBy_alloc w2 (.cells #[.int .i64 0, .int .i64 999, .int .i64 1000] 3) _))
        clear hC3
        go_wp2_with fail
        refine (amongC In64 3 (by omega) (by omega) _ B ao n cap k2 w2.heap.size 3 HC3.out hn (by omega) HC2.out.lt (fresh_three w2 _)).mono ?_
        rintro e w4 ⟨x, hx1, rfl, ⟨k4, hk4, hC4⟩, hg4⟩
        have HX1 := Lib.hid hx1
        have HO4 := Lib.hid (own_other HO3.out hBw hg4); have HC4 := Lib.hid hC4; have HG4 := Lib.hid (HG3.out.trans hg4)
        clear hC4 hg4 HO3 HC3 HG3 hx1
        go_wp2_with (at_builtin; refine wpList_append_own _ rfl _ _ 24 rfl w.heap.size 3 i0 (.int .i64 0) 1 8 Try.underlying24 hi hz0 hz1 hz2 rfl (by decide) _ _ _ rfl (HO4.out.alloc _) ⟨w4.heap.size, 0, none⟩ 1 1 [.int .i64 x] rfl rfl new_cell ?c2 ?c3 ?c4 ?c5 ?_)
        case c2 => intro u hu; simp at hu; subst hu; rfl
        case c3 => unfold maxLen; omega
        case c4 => omega
        case c5 => have h1 := HG4.out.size; simp; omega
        intro v' w5 hown' hgrow _
        obtain ⟨hx5, ho5, hC5, hg5⟩ := r_append hBw HX.out HX1.out HO4.out HG4.out HC4.out hown' hgrow
        have HE := Lib.hid (refs_end (k := k) (j := 10) (by rw [List.length_append, List.length_singleton]; omega) hx5 ho5 (by omega) hC5 hg5)
        clear hx5 ho5 hC5 hg5 hown' hgrow
        go_wp2
        go_ret
        exact HE.out

/-- Two short lists were drawn. -/
def Drawn2 (w : World) (e : Ending) (w' : World) : Prop :=
  ∃ (ao : Option Addr) (c : Nat) (a : List Int) (bo : Option Addr) (d : Nat) (b : List Int), a.length ≤ 7 ∧ b.length ≤ 7 ∧ e = .returned (.tuple #[.slice ao a.length c, .slice bo b.length d]) ∧ IRow w' w'.heap.size ao a ∧ IRow w' w'.heap.size bo b ∧ Below w.heap.size w w'
theorem IRow.other {w w' : World} {ao : Option Addr} {xs : List Int} {B : Nat} (h : IRow w w.heap.size ao xs) (hf : 0 < xs.length → ∃ g, ao = some ⟨g, 0, none⟩ ∧ B < g) (hg : w.grownBy w' (some B)) : IRow w' w'.heap.size ao xs :=
  ⟨h.1, fun hp => by
    obtain ⟨b, off, e, hl, hc⟩ := h.2 hp
    obtain ⟨g, e2, hB⟩ := hf hp
    rw [e] at e2
    injection e2 with e2
    injection e2 with e2 _
    exact ⟨b, off, e, Nat.lt_of_lt_of_le hl hg.size, fun i hi => hg.cell (hc i hi) (by simp; omega)⟩⟩

set_option maxHeartbeats 2000000 in
set_option maxRecDepth 100000 in
theorem drawBothC (w : World) (ao : Option Addr) (n cap : Nat) (h : BRow w w.heap.size ao n) (hn : n ≤ 1048576) : Calls Try.prog 5 #[.slice ao n cap] w (Drawn2 w) := by
  have HC0 := Lib.hid (cur_new w ao n cap h)
  clear h
  go_enter Try.func5, Try.ntmps5
  go_wp2_with fail
  refine (refsC _ _ ao n cap 0 HC0.out hn (by omega)).mono ?_
  rintro e w1 ⟨po, pc, xs, hl, hx, rfl, hR, hF, ⟨k1, hk1, hC1⟩, hg1⟩
  have HC1 := Lib.hid hC1; have HG1 := Lib.hid hg1; have HR1 := Lib.hid hR; have HF1 := Lib.hid hF
  clear hC1 hg1 hR hF hx
  go_wp2_with fail
  refine (refsC _ _ ao n cap k1 HC1.out hn (by omega)).mono ?_
  rintro e w2 ⟨qo, qc, ys, hl2, hx2, rfl, hR2, _, hD2⟩
  have HB := Lib.hid (below_cur (HG1.out.trans hD2.2)); have HR2 := Lib.hid hR2
  have HR12 := Lib.hid (HR1.out.other (fun hp => by obtain ⟨g, e, hg⟩ := HF1.out hp; exact ⟨g, e, by simp at hg; omega⟩) hD2.2)
  clear hR2 hD2 hx2
  go_wp2
  go_ret2
  exact ⟨po, pc, xs, qo, qc, ys, hl, hl2, rfl, HR12.out, HR2.out, HB.out⟩
theorem drawEitherC (w : World) (ao : Option Addr) (n cap : Nat) (h : BRow w w.heap.size ao n) (hn : n ≤ 1048576) : Calls Try.prog 13 #[.slice ao n cap] w (Drawn2 w) := by
  have HC := Lib.hid (drawBothC w ao n cap h hn)
  clear h
  go_enter Try.func13, Try.ntmps13
  go_wp2_with fail
  refine HC.out.mono ?_
  rintro e w1 h1
  have HE := Lib.hid h1
  obtain ⟨po, pc, xs, qo, qc, ys, _, _, rfl, _⟩ := h1
  go_wp2
  go_ret2
  exact HE.out
theorem drawLessC (w : World) (ao : Option Addr) (n cap : Nat) (h : BRow w w.heap.size ao n) (hn : n ≤ 1048576) : Calls Try.prog 14 #[.slice ao n cap] w (Drawn2 w) := by
  have HC := Lib.hid (drawBothC w ao n cap h hn)
  clear h
  go_enter Try.func14, Try.ntmps14
  go_wp2_with fail
  refine HC.out.mono ?_
  rintro e w1 h1
  have HE := Lib.hid h1
  obtain ⟨po, pc, xs, qo, qc, ys, _, _, rfl, _⟩ := h1
  go_wp2
  go_ret2
  exact HE.out
theorem bigC (w : World) (ao bo : Option Addr) (n m c d : Nat) : Calls Try.prog 4 #[.slice ao n c, .slice bo m d] w fun e w' => e = .returned (.bool (decide (1048576 < n + m))) ∧ w = w' := by
  by_cases h1 : 1048576 < n
  · go_enter Try.func4, Try.ntmps4
    go_wp2
    go_ret
    exact ⟨ret_bool (by simp; omega), rfl⟩
  · go_enter Try.func4, Try.ntmps4
    go_wp2
    go_ret
    exact ⟨ret_bool (by rw [Bool.eq_iff_iff]; simp; omega), rfl⟩
set_option maxHeartbeats 2000000 in
set_option maxRecDepth 100000 in
theorem sameI (ao bo : Option Addr) (c d : Nat) (xs : List Int) (hn : xs.length ≤ 1048576) (w : World) (ha : IRow w w.heap.size ao xs) (hb : IRow w w.heap.size bo xs) :
    Calls Try.prog 12 #[.slice ao xs.length c, .slice bo xs.length d] w fun e w' => e = .returned (.bool true) ∧ Below w.heap.size w w' := by
  have HA := Lib.hid ha
  have HB := Lib.hid hb
  clear ha hb
  go_enter Try.func12, Try.ntmps12
  go_wp2
  go_loopw [13] (fun i wr => ∃ k : Nat, k ≤ xs.length ∧ i = .int .i64 k ∧ Hid (Below w.heap.size w wr)) (fun i _ => xs.length - (intOf i).toNat)
  case atStart => exact ⟨0, Nat.zero_le _, rfl, Lib.hid (Below.refl _ _)⟩
  case round =>
    obtain ⟨k, hk, rfl, hB⟩ := hrel
    by_cases hlt : k < xs.length
    · obtain ⟨b, off, hao, hbl, hc⟩ := HA.out.2 (by omega)
      obtain ⟨b', off', hao', hbl', hc'⟩ := HB.out.2 (by omega)
      subst hao hao'
      have c1 := (hB.out.cell (p := ⟨b, off + k, none⟩) hbl).trans (hc k hlt)
      have c2 := (hB.out.cell (p := ⟨b', off' + k, none⟩) hbl').trans (hc' k hlt)
      clear hc hc'
      generalize xs[k] = x at c1 c2
      go_wp2
      go_quiet (fail)
      have HD := Lib.hid (below_drewN2 hB.out nq)
      go_wp2
      go_roundw
      case rel => exact ⟨k + 1, by omega, by go_num, HD⟩
      case measure => simp [intOf]; omega
    · go_wp2
      go_ret
      exact ⟨rfl, hB.out⟩
end Go.Proofs.Ytgibjdmjemalcaa
