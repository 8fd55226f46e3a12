/- Contracts of the model's draws of lists of values, over this seat's translation: each answers some list of at most 201 values in new memory and writes nothing that was there but the cursor. -/
import Derived.Test.YtkpfjjkblfjodaaDraws
import Derived.Maps.Range
namespace Go.Proofs.Ytkpfjjkblfjodaa
open Go.RowKit Go.Deep

theorem Cur.kept {w w' : World} {B : Nat} {ao : Option Addr} {n cap k : Nat} {row : Option Nat} (h : Cur w B ao n cap k) (hg : w.grownBy w' row) (hr : ∀ g, row = some g → B < g) : Cur w' B ao n cap k := by
  have hl := h.lt
  obtain ⟨⟨s, h0, h1, hb⟩, hrow⟩ := h
  refine ⟨⟨s, h0, h1, ?_⟩, fun hp => ?_⟩
  · rw [hg.block B hl (fun e => by have := hr B e.symm; omega)]; exact hb
  · obtain ⟨b, off, e, hbl, hc⟩ := hrow hp
    refine ⟨b, off, e, hbl, fun i hi => ?_⟩
    obtain ⟨z, z0, z1, z2⟩ := hc i hi
    exact ⟨z, z0, z1, hg.cell z2 (fun e => by have := hr b e.symm; omega)⟩

theorem ownsRow_other {w w' : World} {base B : Nat} {v : Value} {n : Nat} {xs : List Value} (h : w.ownsRow base 24 1 v n xs) (hB : B < base) (hg : w.grownBy w' (some B)) : w'.ownsRow base 24 1 v n xs := by
  obtain ⟨h1, h2⟩ := h
  refine ⟨h1, ?_⟩
  rcases h2 with h2 | ⟨g, cap, cur, hv, hge, hh, r⟩
  · exact .inl h2
  · have hl : g < w.heap.size := (Array.getElem?_eq_some_iff.1 hh).1
    exact .inr ⟨g, cap, cur, hv, hge, by rw [hg.block g hl (by simp; omega)]; exact hh, r⟩

theorem ownBlock_ge {w : World} {base : Nat} {v : Value} {n : Nat} {xs : List Value} (h : w.ownsRow base 24 1 v n xs) : ∀ g, v.ownBlock = some g → base ≤ g := by
  intro g hg
  obtain ⟨_, ⟨rfl, _⟩ | ⟨g', cap, cur, rfl, hge, _⟩⟩ := h
  · simp [Value.ownBlock] at hg
  · simp [Value.ownBlock] at hg; omega

theorem frow_owned {w : World} {base : Nat} {v : Value} {xs : List Nat} (hx : ∀ x ∈ xs, x < 18446744073709551616) (h : w.ownsRow base 24 1 v xs.length (xs.map (Value.float .f64))) : ∃ ao cap, v = .slice ao xs.length cap ∧ FRow w ao xs := by
  obtain ⟨_, ⟨rfl, hn⟩ | ⟨g, cap, cur, rfl, hge, hh, hle, _, hsz, htk⟩⟩ := h
  · exact ⟨none, 0, by rw [hn], hx, fun hp => by omega⟩
  · refine ⟨_, cap, rfl, hx, fun hp => ⟨g, 0, rfl, (Array.getElem?_eq_some_iff.1 hh).1, fun i hi => ?_⟩⟩
    have e : cur.toList[i]? = some (.float .f64 (xs.getD i 0)) := by
      have h2 : (cur.toList.take (xs.length * 1))[i]? = cur.toList[i]? := by rw [List.getElem?_take, if_pos (by omega)]
      rw [← h2, htk]
      simp [List.getD, hi]
    have e' : cur[i]? = some (.float .f64 (xs.getD i 0)) := by simpa using e
    simp [World.cell?, hh, e']

/-- Some list of values was drawn. -/
def Listed (w : World) (B : Nat) (e : Ending) (w' : World) : Prop :=
  ∃ (v : Value) (xs : List Nat), xs.length ≤ 8 ∧ (∀ x ∈ xs, x < 18446744073709551616) ∧ e = .returned v ∧ w'.ownsRow w.heap.size 24 1 v xs.length (xs.map (Value.float .f64)) ∧ w.grownBy w' (some B)

/-- What the loop of a list's draw keeps. -/
def ValInv (w : World) (B : Nat) (ao : Option Addr) (n cap : Nat) (v : Value) (j : Nat) (wr : World) : Prop :=
  ∃ (xs : List Nat) (k' : Nat), xs.length + j ≤ 8 ∧ k' + 2 * j ≤ 1000 ∧ (∀ x ∈ xs, x < 18446744073709551616) ∧ wr.ownsRow w.heap.size 24 1 v xs.length (xs.map (Value.float .f64)) ∧ Cur wr B ao n cap k' ∧ w.grownBy wr (some B)

theorem val_step {w wr w1 w2 : World} {B : Nat} {ao : Option Addr} {n cap k' j : Nat} {v v' : Value} {x : Nat} {xs : List Nat} {o : Obj} (hB : B < w.heap.size) (hl : xs.length + (j + 1) ≤ 8) (hk : k' + 2 * (j + 1) ≤ 1000) (hx : ∀ x ∈ xs, x < 18446744073709551616) (hx1 : x < 18446744073709551616)
    (hown : wr.ownsRow w.heap.size 24 1 v xs.length (xs.map (Value.float .f64))) (hg0 : w.grownBy wr (some B)) (hD : Drawn wr w1 B ao n cap k' 2)
    (hown' : w2.ownsRow w.heap.size 24 1 v' (xs.length + 1) (xs.map (Value.float .f64) ++ [.float .f64 x])) (hgrow : (w1.alloc o).grownBy w2 v.ownBlock) : ValInv w B ao n cap v' j w2 := by
  obtain ⟨⟨k2, hk2, hC⟩, hg1⟩ := hD
  have hge := ownBlock_ge hown
  refine ⟨xs ++ [x], k2, by simp; omega, by omega, ?_, by simpa using hown', (hC.alloc o).kept hgrow (fun g hg => by have := hge g hg; omega), ?_⟩
  · intro y hy
    simp at hy
    rcases hy with hy | rfl
    · exact hx y hy
    · exact hx1
  · exact ((hg0.trans hg1).trans (World.grownBy_alloc _ _ _)).andThen hgrow (fun g hg => .inl (hge g hg))

set_option maxHeartbeats 2000000 in
theorem values54 (w : World) (B : Nat) (ao : Option Addr) (n cap k : Nat) (h : Cur w B ao n cap k) (hn : n ≤ 1048576) (hk : k ≤ 900) :
    Calls Try.prog 54 #[.pointer (some ⟨B, 0, none⟩), .int .i64 8] w (Listed w B) := by
  have H := Lib.hid h
  clear h
  obtain ⟨i0, hi, hz0, hz1, hz2⟩ := info_parts Try.info24
  go_enter Try.func54, Try.ntmps54
  go_wp2_with fail
  refine (pick53 w B ao n cap k 9 H.out hn (by omega) (by decide) (by decide)).mono ?_
  rintro e w1 ⟨r, hr0, hr1, rfl, hD⟩
  obtain ⟨j0, rfl⟩ := Int.eq_ofNat_of_zero_le hr0
  have HI : Hid (ValInv w B ao n cap (.slice none 0 0) j0 w1) := by
    obtain ⟨⟨k1, hk1, hC1⟩, hG1⟩ := hD
    exact Lib.hid ⟨[], k1, by simp; omega, by omega, fun x hx => by simp at hx, World.ownsRow_nil _ _ _ _, hC1, hG1⟩
  clear hD
  go_wp2_with fail
  go_loopw [5, 6] (fun v i wr => ∃ j : Nat, i = .int .i64 j ∧ Hid (ValInv w B ao n cap v j wr)) (fun _ i _ => (intOf i).toNat)
  case atStart => exact ⟨j0, rfl, HI⟩
  case round =>
    obtain ⟨j, rfl, hI⟩ := hrel
    cases j with
    | zero =>
      go_wp2
      go_ret
      obtain ⟨xs, k', hl, _, hx, hown, hC, hg⟩ := hI.out
      exact ⟨_, xs, by omega, hx, rfl, hown, hg⟩
    | succ j =>
      obtain ⟨xs, k', hl, hk', hx, hown, hC, hg⟩ := hI.out
      have HX := Lib.hid hx; have HO := Lib.hid hown; have HC := Lib.hid hC; have HG := Lib.hid hg
      clear hx hown hC hg hI
      go_wp2_with fail
      refine (value44 _ B ao n cap k' HC.out hn (by omega)).mono ?_
      rintro e w2 ⟨x, hx1, rfl, hD⟩
      have HD := Lib.hid hD
      clear hD
      go_wp2_with (at_builtin; refine wpList_append_own _ rfl _ _ 36 rfl w.heap.size 24 i0 (.float .f64 0) 1 8 Try.underlying36 hi hz0 hz1 hz2 rfl (by decide) _ _ _ rfl ((ownsRow_other HO.out H.out.lt HD.out.2).alloc _) ⟨w2.heap.size, 0, none⟩ 1 1 [.float .f64 x] rfl rfl ?c1 ?c2 ?c3 ?c4 ?c5 ?_)
      case c1 =>
        intro j u hj
        match j, hj with
        | 0, hj => simp at hj; subst hj; simp [Addr.add]
      case c2 => intro u hu; simp at hu; subst hu; rfl
      case c3 => unfold maxLen; omega
      case c4 => omega
      case c5 => have h1 := HG.out.size; have h2 := HD.out.2.size; simp; omega
      · intro v' w3 hown' hgrow _
        have R := Lib.hid (val_step H.out.lt hl hk' HX.out hx1 HO.out HG.out HD.out hown' hgrow)
        clear hown' hgrow
        go_wp2
        go_roundw
        case rel => exact ⟨j, by go_num, R⟩
        case measure => simp [intOf]

/-- Some list of values was drawn, in new memory. -/
def DrawnL (w : World) (e : Ending) (w' : World) : Prop :=
  ∃ (ao : Option Addr) (cap : Nat) (xs : List Nat), xs.length ≤ 201 ∧ e = .returned (.slice ao xs.length cap) ∧ FRow w' ao xs ∧ Below w.heap.size w w'

theorem draw37 (w : World) (ao : Option Addr) (n cap : Nat) (h : BRow w w.heap.size ao n) (hn : n ≤ 1048576) : Calls Try.prog 37 #[.slice ao n cap] w (DrawnL w) := by
  have H := Lib.hid h
  clear h
  go_enter Try.func37, Try.ntmps37
  go_wp2_with fail
  refine (one51 _ _ ao n cap 0 30 (cur_new w ao n cap H.out) hn (by omega) (by decide) (by decide)).mono ?_
  rintro e w2 ⟨b, rfl, ⟨k2, hk2, hC2⟩, hG2⟩
  have HC2 := Lib.hid hC2; have HG2 := Lib.hid hG2; clear hC2 hG2
  cases b
  · go_wp2_with fail
    refine (values54 _ _ ao n cap k2 HC2.out hn (by omega)).mono ?_
    rintro e w3 ⟨v, xs, hl, hx, rfl, hown, hG3⟩
    obtain ⟨ao', cap', rfl, hF⟩ := frow_owned hx hown
    have HF := Lib.hid hF
    have HB := Lib.hid (below_of_grown (HG2.out.trans hG3))
    clear hown hG3 hF hx
    go_wp2
    go_ret
    exact ⟨ao', cap', xs, by omega, rfl, HF.out, HB.out⟩
  · go_wp2_with fail
    refine (pick53 _ _ ao n cap k2 2 HC2.out hn (by omega) (by decide) (by decide)).mono ?_
    rintro e w3 ⟨r, hr0, hr1, rfl, hD⟩
    obtain ⟨i, rfl⟩ := Int.eq_ofNat_of_zero_le hr0
    have HB := Lib.hid (below_of_grown (HG2.out.trans hD.2))
    have hmk : ∀ w, (Instr.makeSlice 36 (.int .i64 (200 + (i : Int))) (.int .i64 (200 + (i : Int)))).run Try.prog w = .ok (.slice (some ⟨w.heap.size, 0, none⟩) (200 + i) (200 + i)) (w.alloc (.cells (madeCells #[.float .f64 0] (200 + i)) 24)) := by
      intro w
      have := run_make_row' (P := Try.prog) 36 24 (.float .f64 0) 8 Try.underlying36 Try.info24 rfl .i64 .i64 (200 + i) (by omega) (by omega) w
      simpa using this
    clear hD
    go_wp2
    go_ret
    have hF : FRow (w3.alloc (.cells (madeCells #[.float .f64 0] (200 + i)) 24)) (some ⟨w3.heap.size, 0, none⟩) (List.replicate (200 + i) 0) := by
      refine frow_of (fun x hx => ?_) ?_
      · have := List.eq_of_mem_replicate hx; omega
      · rw [List.length_replicate]
        exact (World.rowIs_made _ _ _ _).congr fun j hj => by simp [List.getD, hj]
    exact ⟨some ⟨w3.heap.size, 0, none⟩, 200 + i, List.replicate (200 + i) 0, by simp; omega, by simp, hF, HB.out.alloc HB.out.size _⟩

theorem draw34 (w : World) (ao : Option Addr) (n cap : Nat) (h : BRow w w.heap.size ao n) (hn : n ≤ 1048576) : Calls Try.prog 34 #[.slice ao n cap] w (DrawnL w) := by
  have H := Lib.hid h
  clear h
  go_enter Try.func34, Try.ntmps34
  go_wp2_with fail
  refine (draw37 w ao n cap H.out hn).mono ?_
  rintro e w1 ⟨ao', cap', xs, hl, rfl, hF, hB⟩
  have HF := Lib.hid hF; have HB := Lib.hid hB; clear hF hB
  go_wp2
  go_ret
  exact ⟨ao', cap', xs, hl, rfl, HF.out, HB.out⟩
end Go.Proofs.Ytkpfjjkblfjodaa
