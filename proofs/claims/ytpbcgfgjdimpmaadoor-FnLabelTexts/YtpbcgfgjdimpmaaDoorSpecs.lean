/- Contract of the model's sorting of labels, over this seat's translation. -/
import Derived.Test.YtpbcgfgjdimpmaaDoorIns
import Derived.Deep.DeepCutAuto
import Derived.Deep.RegionHeld3
import Derived.Deep.CutBlock
namespace Go.Proofs.YtpbcgfgjdimpmaaDoor
open Go.RowKit Go.Deep

theorem apart_of {l R : List Lab} {k : Nat} (hk : k < l.length) (hn : (names l).Nodup) (hp : R.Perm ((l.take k).filter hasIs)) : ∀ i (hi : i < R.length), R[i].1.data.toList ≠ l[k].1.data.toList := by
  intro i hi he
  have hm : R[i] ∈ (l.take k).filter hasIs := hp.subset (List.getElem_mem hi)
  have hm2 := (List.mem_filter.1 hm).1
  obtain ⟨q, hq, hqe⟩ := List.getElem_of_mem hm2
  simp at hq hqe
  exact same_not_nodup (i := q) (k := k) (by omega) hk (by omega) (by rw [hqe]; exact he) hn
theorem above_step {R : List Lab} {x : ByteArray} {j : Nat} (h : ∀ i (hi : i < R.length), j + 1 ≤ i → less x R[i].1 = true) (hj : j < R.length) (h2 : less x R[j].1 = true) : ∀ i (hi : i < R.length), j ≤ i → less x R[i].1 = true := fun i hi hij => by
  by_cases e : i = j
  · subst e; exact h2
  · exact h i hi (by omega)
theorem under_of {R : List Lab} {x : ByteArray} {j : Nat} (hs : strict R) (hj : j + 1 ≤ R.length) (h2 : less R[j].1 x = true) : ∀ i (hi : i < R.length), i < j + 1 → less R[i].1 x = true := fun i hi hij => by
  by_cases e : i = j
  · subst e; exact h2
  · exact less_trans ((strict_iff R).1 hs i j hi (by omega) (by omega)) h2

theorem own_cap {w : World} {base n c : Nat} {va : Option Addr} {xs : List Value} (h : w.ownsRow base 82 2 (.slice va n c) n xs) : n ≤ c := by
  rcases h.2 with ⟨h', h0⟩ | ⟨g, cap, cur, h', _, _, hnc, _⟩
  · omega
  · injection h' with h1 h2 h3; omega
theorem own_form {w : World} {base n : Nat} {v : Value} {xs : List Value} (h : w.ownsRow base 82 2 v n xs) : ∃ ao c, v = .slice ao n c := by
  rcases h.2 with ⟨h, h0⟩ | ⟨g, c, _, h, _⟩
  · exact ⟨_, _, by rw [h, h0]⟩
  · exact ⟨_, _, h⟩
theorem alloc_at (w : World) (o : Obj) : (w.alloc o).heap[w.heap.size]? = some o := blk_alloc_new w o
theorem alloc_keeps (w : World) (o : Obj) : ∀ p : Addr, p.block < w.heap.size → (w.alloc o).cell? p = w.cell? p := fun _ hp => ((Below.refl _ w).alloc (Nat.le_refl _) o).cell hp
theorem rest_app {w w7 : World} {v' : Value} {m : Nat} {news : List Value} {o : Obj} (ho : w7.ownsRow w.heap.size 82 2 v' m news) (hg : (w.alloc o).grownBy w7 (some w.heap.size)) : w7.ownsRow w.heap.size 82 2 v' m news ∧ Below w.heap.size w w7 := by
  refine ⟨ho, ?_⟩
  exact (((Below.refl _ w).alloc (Nat.le_refl _) o).grown hg (by simp) (fun k hk => by cases hk; exact Nat.le_refl _))
theorem src_nil (w : World) (A : Option Addr) : Src w A 0 [] := ⟨rfl, fun _ _ j u h => by simp at h⟩
theorem src_end {R : List Lab} {j : Nat} (w : World) (A : Option Addr) (h : R.length ≤ j) : Src w A (R.length - j) (cellsOf (R.drop j)) := by
  rw [List.drop_eq_nil_of_le h, show R.length - j = 0 by omega]
  exact src_nil w A
theorem wrap_pred {j : Nat} (h : j ≤ 1048576) : IntKind.i64.wrap ((j : Int) + 1 - 1) = (j : Int) := by
  rw [show ((j : Int) + 1 - 1) = (j : Int) by omega]
  exact IntWalk.i64_in _ (by omega)
structure At7 (w w7 : World) (R : List Lab) (va : Option Addr) (j : Nat) (rA : Option Addr) (B : Nat) : Prop where
  rest : SrcB w7 w7.heap.size rA (R.length - j) (cellsOf (R.drop j))
  rnone : rA = none → R.length - j = 0
  front : SrcB w7 w7.heap.size va j (cellsOf (R.take j))
  fnone : va = none → j = 0
  box : B < w7.heap.size
  below : Below w.heap.size w w7
theorem SrcB.more {w : World} {B B' : Nat} {A : Option Addr} {m : Nat} {news : List Value} (h : SrcB w B A m news) (hB : B ≤ B') : SrcB w B' A m news :=
  ⟨h.1, fun ad e j u hu => by have := h.2 ad e j u hu; exact ⟨by omega, this.2⟩⟩
theorem at7 {w wc w7 : World} {R : List Lab} {va rA : Option Addr} {vc rc j B base : Nat} (hj : j ≤ R.length) (HO4 : wc.ownsRow base 82 2 (.slice va R.length vc) R.length (cellsOf R))
    (hr : w7.ownsRow wc.heap.size 82 2 (.slice rA (R.length - j) rc) (R.length - j) (cellsOf (R.drop j))) (hb : Below wc.heap.size wc w7) (hw : Below w.heap.size w wc) (hB : B < wc.heap.size) : At7 w w7 R va j rA B where
  rest := by
    have h := src_front hr (R.length - j) (by simp)
    rwa [List.take_of_length_le (by simp)] at h
  rnone := own_none hr
  front := ((src_front HO4 j hj).below hb).more hb.size
  fnone := fun h => by have := own_none HO4 h; omega
  box := Nat.lt_of_lt_of_le hB hb.size
  below := hw.trans (hb.mono hw.size)
theorem blkC (w : World) (o : Obj) : (w.alloc o).drew.heap[w.heap.size]? = some o := blk_alloc_new w o
theorem blkB (w : World) (o p : Obj) : ((w.alloc o).alloc p).drew.heap[w.heap.size]? = some o := (blk_alloc_lt (w.alloc o) p w.heap.size (by simp)).trans (blk_alloc_new w o)
theorem blkA (w : World) (o p : Obj) : ((w.alloc o).alloc p).drew.heap[w.heap.size + 1]? = some p := by
  have := blk_alloc_new (w.alloc o) p
  rwa [show (w.alloc o).heap.size = w.heap.size + 1 by simp] at this
theorem belC (w : World) (o : Obj) : Below w.heap.size w (w.alloc o).drew := ((Below.refl _ w).alloc (Nat.le_refl _) o).drew
theorem belAB (w : World) (o p : Obj) : Below w.heap.size w ((w.alloc o).alloc p).drew := (((Below.refl _ w).alloc (Nat.le_refl _) o).alloc (by simp) p).drew
theorem mid_below {w7 W w8 : World} {v1 : Value} {n h : Nat} {xs : List Value} (_ho : w8.ownsRow w7.heap.size 82 2 v1 n xs) (hb : Below w7.heap.size w7 W) (hg : W.grownBy w8 (some h)) (hh : w7.heap.size ≤ h) : Below w7.heap.size w7 w8 :=
  hb.grown hg hb.size (fun k hk => by cases hk; exact hh)
theorem own_drew {w : World} {base n : Nat} {v : Value} {xs : List Value} (h : w.ownsRow base 82 2 v n xs) : w.drew.ownsRow base 82 2 v n xs := h
theorem bel8 {w w8 : World} (h : Below w.heap.size w w8) (o : Obj) : Below w.heap.size w (w8.alloc o) := h.alloc h.size o
theorem src_box {W : World} {h : Nat} {x1 x2 : ByteArray} (hh : W.heap[h]? = some (.cells #[.string x1, .string x2] 82 (0, 0))) : Src W (some ⟨h, 0, none⟩) 1 [.string x1, .string x2] := by
  refine ⟨rfl, fun ad e j u hu => ?_⟩
  injection e with e
  subst e
  match j, hu with
  | 0, hu => simp at hu; subst hu; simp [Addr.add, World.cell?, hh]
  | 1, hu => simp at hu; subst hu; simp [Addr.add, World.cell?, hh]
theorem keepB {w w8 : World} {o p : Obj} (hg : ((w.alloc o).alloc p).drew.grownBy w8 (some w.heap.size)) : w8.heap[w.heap.size + 1]? = some p :=
  (hg.block (w.heap.size + 1) (by simp) (by simp)).trans (blkA w o p)
theorem keepA {w w8 : World} {o p : Obj} (hg : ((w.alloc o).alloc p).drew.grownBy w8 (some (w.heap.size + 1))) : w8.heap[w.heap.size]? = some o :=
  (hg.block w.heap.size (by simp; omega) (by simp)).trans (blkB w o p)
theorem mid_below2 {w7 w8 W w9 : World} {v1 : Value} {n : Nat} {xs : List Value} (ho : w8.ownsRow w7.heap.size 82 2 v1 n xs) (hb : Below w7.heap.size w7 W) (hg : W.grownBy w9 v1.ownBlock) : Below w7.heap.size w7 w9 :=
  hb.grown hg hb.size (fun k hk => (ho.lt k hk).1)
theorem own_base {w : World} {base base' n : Nat} {v : Value} {xs : List Value} (h : w.ownsRow base 82 2 v n xs) (hb : base' ≤ base) : w.ownsRow base' 82 2 v n xs := by
  rcases h.2 with h' | ⟨g, c, cur, h1, h2, h3⟩
  · exact ⟨h.1, .inl h'⟩
  · exact ⟨h.1, .inr ⟨g, c, cur, h1, Nat.le_trans hb h2, h3⟩⟩
theorem ins_done {w w7 w9 W w10 : World} {v2 v3 : Value} {R : List Lab} {j : Nat} {x1 x2 : ByteArray} (hj : j ≤ R.length) (h7 : Below w.heap.size w w7) (ho2 : w9.ownsRow w7.heap.size 82 2 v2 (j + 1) (cellsOf (R.take j) ++ [.string x1, .string x2]))
    (ho3 : w10.ownsRow w7.heap.size 82 2 v3 (j + 1 + (R.length - j)) (cellsOf (R.take j) ++ [.string x1, .string x2] ++ cellsOf (R.drop j))) (hb : Below w7.heap.size w7 W) (hg : W.grownBy w10 v2.ownBlock) :
    w10.ownsRow w.heap.size 82 2 v3 (R.take j ++ (x1, x2) :: R.drop j).length (cellsOf (R.take j ++ (x1, x2) :: R.drop j)) ∧ Below w.heap.size w w10 ∧ Below w7.heap.size w7 w10 := by
  have hb2 := mid_below2 ho2 hb hg
  refine ⟨?_, h7.trans (hb2.mono h7.size), hb2⟩
  have h := own_base ho3 h7.size
  have e1 : (R.take j ++ (x1, x2) :: R.drop j).length = j + 1 + (R.length - j) := by simp; omega
  have e2 : cellsOf (R.take j ++ (x1, x2) :: R.drop j) = cellsOf (R.take j) ++ [.string x1, .string x2] ++ cellsOf (R.drop j) := by
    rw [cellsOf_append, List.append_assoc]; rfl
  rw [e1, e2]
  exact h
theorem ins_fine {l R : List Lab} {x : Lab} {j k : Nat} (hRk : R.length ≤ k) (hj : j ≤ R.length) (hp : R.Perm ((l.take k).filter hasIs)) (hs : strict R) (he : (l.take (k + 1)).filter hasIs = (l.take k).filter hasIs ++ [x])
    (h1 : ∀ i (hi : i < R.length), i < j → less R[i].1 x.1 = true) (h2 : ∀ i (hi : i < R.length), j ≤ i → less x.1 R[i].1 = true) :
    (R.take j ++ x :: R.drop j).length ≤ k + 1 ∧ (R.take j ++ x :: R.drop j).Perm ((l.take (k + 1)).filter hasIs) ∧ strict (R.take j ++ x :: R.drop j) := by
  refine ⟨by simp; omega, ?_, strict_insert hs h1 h2⟩
  rw [he]
  exact (perm_insert R x j).trans (hp.append_right [x])
theorem row_name {w : World} {base n c g : Nat} {R : List Lab} (h : w.ownsRow base 82 2 (.slice (some ⟨g, 0, none⟩) n c) n (cellsOf R)) {j : Nat} (hj : j < R.length) : w.cell? ⟨g, j * 2, none⟩ = some (.string R[j].1) := by
  have := h.cells (g := g) rfl (j * 2) (.string R[j].1) (cellsOf_name hj)
  rw [Go.WideShapes.add_plain, Nat.zero_add] at this
  exact this

set_option maxHeartbeats 4000000 in
set_option maxRecDepth 100000 in
theorem sort17 (base : Nat) (v : Value) (l : List Lab) (hF : Fit l) (w : World) (ho : w.ownsRow base 82 2 v l.length (cellsOf l)) :
    Calls Tryd.prog 123 #[v] w (SortEnd l w) := by
  obtain ⟨ao, c, rfl, hcap, hcm⟩ : ∃ ao c, v = .slice ao l.length c ∧ l.length ≤ c ∧ c ≤ maxLen := by
    rcases ho.2 with ⟨rfl, h0⟩ | ⟨g, c, _, rfl, _, _, h1, h2, _⟩
    · exact ⟨_, _, by rw [h0], by omega, by unfold maxLen; omega⟩
    · exact ⟨_, _, rfl, h1, h2⟩
  have H := Lib.hid (LRow.of_own ho).2
  have hn := hF.1
  clear ho
  go_enter Tryd.func123, Tryd.ntmps123
  go_wp2_with fail
  refine (code62 ao c l hF hcap hcm w H.out).mono ?_
  rintro e w1 ⟨rfl, hb⟩
  have HB := Lib.hid hb
  clear hb
  by_cases h0 : codeB l = 0
  case neg =>
    have HK := Lib.hid (sortEnd_no rfl h0 HB.out)
    generalize codeB l = cd at HK h0
    have hp : 0 < cd := by omega
    clear h0
    go_wp2
    go_ret3
    exact HK.out
  have HZ := Lib.hid h0
  have hpart : partC l = 0 := by
    by_cases hp : partC l = 0
    · exact hp
    · exact absurd ((codeB_part hp).symm.trans h0) hp
  have HND : Hid ((names l).Nodup) := by
    by_cases hnd : (names l).Nodup
    · exact hnd
    · have := codeB_twice hpart hnd; omega
  have h12 := (partC_zero hpart).1
  rw [h0]
  clear h0 hpart hcap hcm
  go_wp2
  go_loopw [6, 18] (fun v i wr => ∃ (k : Nat) (R : List Lab), k ≤ l.length ∧ i = .int .i64 k ∧ R.length ≤ k ∧ Hid (wr.ownsRow w.heap.size 82 2 v R.length (cellsOf R)) ∧ Hid (R = [] → v = .slice none 0 0) ∧ Hid (R.Perm ((l.take k).filter hasIs)) ∧ Hid (strict R) ∧ Hid (Below w.heap.size w wr)) (fun _ i _ => l.length - (intOf i).toNat)
  case atStart => exact ⟨0, [], Nat.zero_le _, rfl, by simp, World.ownsRow_nil _ _ _ _, fun _ => rfl, by simp [Hid], List.Pairwise.nil, HB⟩
  case round =>
    obtain ⟨k, R, hk, rfl, hRk, hO, hNil, hP, hSt, hb⟩ := hrel
    by_cases hlt : k < l.length
    · obtain ⟨b, off, hao, hbl, hc⟩ := H.out (by omega)
      subst hao
      have c0 := (hb.out.cell (p := ⟨b, off + k * 2, none⟩) hbl).trans (hc k hlt).1
      have c1 := (hb.out.cell (p := ⟨b, off + k * 2 + 1, none⟩) hbl).trans (hc k hlt).2
      have HB1 := Lib.hid (hb.out.alloc (hb.out.size) (.cells #[.string l[k].1, .string l[k].2] 82))
      have HO1 := Lib.hid (hO.out.alloc (.cells #[.string l[k].1, .string l[k].2] 82))
      have HKe := Lib.hid (fun h => filter_keep hlt h)
      have HDr := Lib.hid (fun h => filter_drop hlt h)
      have HAp := Lib.hid (apart_of hlt HND.out hP.out)
      clear hc
      generalize l[k] = x at c0 c1 HB1 HO1 HKe HDr HAp
      obtain ⟨x1, x2⟩ := x
      dsimp only at c0 c1 HAp
      by_cases hz : 0 < x2.size
      case neg =>
        have he := empty_of (s := x2) (by omega)
        have HE := Lib.hid (HDr.out (decide_eq_false hz))
        go_wp2
        go_roundw
        case rel => exact ⟨k + 1, R, by omega, by go_num, by omega, HO1, hNil, by rw [HE.out]; exact hP, hSt, HB1⟩
        case measure => simp [intOf]; omega
      have he := nonempty_of hz
      have HE := Lib.hid (HKe.out (decide_eq_true hz))
      obtain ⟨va, vc, hv⟩ : ∃ ao c, u6 = .slice ao R.length c := by
        rcases hO.out.2 with ⟨h, h0⟩ | ⟨g, c, _, h, _⟩
        · exact ⟨_, _, by rw [h, h0]⟩
        · exact ⟨_, _, h⟩
      subst hv
      go_upto_block 2 with fail
      obtain ⟨k3, k4⟩ := box_cells (wr := wr) (x1 := x1) (x2 := x2) (t := 82) (Below.refl _ _)
      have hB5 : wr.heap.size < (wr.alloc (.cells #[.string x1, .string x2] 82)).heap.size := by simp
      have hBw : w.heap.size ≤ wr.heap.size := hb.out.size
      generalize wr.alloc (.cells #[.string x1, .string x2] 82) = w5 at HB1 HO1 k3 k4 hB5 ⊢
      generalize wr.heap.size = B at k3 k4 hB5 hBw ⊢
      clear c0 c1
      go_cut [9] (fun jv w4 => ∃ j q : Nat, j ≤ R.length ∧ jv = .int .i64 j ∧ Hid (∀ i (hi : i < R.length), j ≤ i → less x1 R[i].1 = true) ∧ Hid (∀ i (hi : i < R.length), i < j → less R[i].1 x1 = true) ∧ Hid (w4 = w5.drewN q))
      case first =>
        go_wp2_with fail
        go_loopw [9] (fun jv w4 => ∃ j q : Nat, j ≤ R.length ∧ jv = .int .i64 j ∧ Hid (∀ i (hi : i < R.length), j ≤ i → less x1 R[i].1 = true) ∧ Hid (w4 = w5.drewN q)) (fun jv _ => (intOf jv).toNat)
        case atStart => exact ⟨R.length, 0, Nat.le_refl _, rfl, fun i hi h => absurd hi (by omega), rfl⟩
        case round =>
          obtain ⟨j, q, hj, rfl, hAb, hw4⟩ := hrel
          have HO4 : Hid (wr.ownsRow w.heap.size 82 2 (.slice va R.length vc) R.length (cellsOf R)) := by rw [hw4.out]; exact HO1
          have m3 : wr.cell? ⟨B, 0, none⟩ = some (.string x1) := by rw [hw4.out]; simpa using k3
          rcases j with _ | j
          · go_wp2_with fail
            go_quiet (fail)
            go_wp2_with fail
            go_meet
            exact ⟨0, q + nq, hj, rfl, hAb, fun i hi h => absurd h (by omega), by rw [hw4.out, World.drewN_drewN]; exact rfl⟩
          · obtain ⟨g, hva⟩ : ∃ g, va = some ⟨g, 0, none⟩ := by
              rcases HO4.out.2 with ⟨h, h0⟩ | ⟨g, c, cur, h, _⟩
              · omega
              · injection h with h; exact ⟨g, h⟩
            subst hva
            have hjl : j < R.length := by omega
            have r0 := row_name HO4.out hjl
            have r1 : wr.cell? ⟨g, 0 + j * 2, none⟩ = some (.string R[j].1) := by rw [Nat.zero_add]; exact r0
            have hne := HAp.out j hjl
            have HA1 : Hid (less x1 R[j].1 = true → ∀ i (hi : i < R.length), j ≤ i → less x1 R[i].1 = true) := above_step hAb.out hjl
            have HU1 : Hid (less R[j].1 x1 = true → ∀ i (hi : i < R.length), i < j + 1 → less R[i].1 x1 = true) := under_of hSt.out hj
            have hwr : IntKind.i64.wrap ((j : Int) + 1 - 1) = (j : Int) := wrap_pred (by omega)
            generalize R[j].1 = y at r0 r1 hne HA1 HU1
            have h2 : (y.toList == x1.toList) = false := by rw [Lib.toList_data, Lib.toList_data]; simpa using hne
            by_cases hl : less x1 y = true
            · have h1 : Op.bytesLess y.toList x1.toList = false := less_asymm hl
              have HA2 := Lib.hid (HA1.out hl)
              clear hl hne
              go_wp2_with fail
              go_quiet (fail)
              go_wp2_with fail
              go_roundw
              case rel => exact ⟨j, q + nq, by omega, by go_num, HA2, by rw [hw4.out, World.drewN_drewN]; exact rfl⟩
              case measure => simp [intOf]
            · have hl2 : less y x1 = true := less_of (by simpa using hl) hne
              have h1 : Op.bytesLess y.toList x1.toList = true := hl2
              have HU2 := Lib.hid (HU1.out hl2)
              clear hl hl2 hne
              go_wp2_with fail
              go_quiet (fail)
              go_wp2_with fail
              go_meet
              exact ⟨j + 1, q + nq, hj, by go_num, hAb, HU2, by rw [hw4.out, World.drewN_drewN]; exact rfl⟩
      case rest =>
        obtain ⟨j, q, hj, rfl, hAb, hUn, hw4⟩ := hcut
        have HO4 : Hid (wc.ownsRow w.heap.size 82 2 (.slice va R.length vc) R.length (cellsOf R)) := by rw [hw4.out]; exact HO1
        have HB4 : Hid (Below w.heap.size w wc) := by rw [hw4.out]; exact below_drewN HB1.out q
        have m3 : wc.cell? ⟨B, 0, none⟩ = some (.string x1) := by rw [hw4.out]; simpa using k3
        have m4 : wc.cell? ⟨B, 1, none⟩ = some (.string x2) := by rw [hw4.out]; simpa using k4
        have hB6 : B < wc.heap.size := by rw [hw4.out]; simpa using hB5
        have HN4 := Lib.hid (own_none HO4.out)
        have HC4 := Lib.hid (own_cap HO4.out)
        clear k3 k4 hw4 HO1 HB1 hB5
        go_upto_region 12 with fail
        go_cut [10] (fun rv w7 => ∃ (rA : Option Addr) (rc : Nat), rv = .slice rA (R.length - j) rc ∧ w7.cell? ⟨B, 0, none⟩ = some (.string x1) ∧ w7.cell? ⟨B, 1, none⟩ = some (.string x2) ∧ At7 w w7 R va j rA B)
        case first =>
          by_cases hjl : j < R.length
          · obtain ⟨g, hva⟩ : ∃ g, va = some ⟨g, 0, none⟩ := by
              rcases HO4.out.2 with ⟨h, h0⟩ | ⟨g, c, cur, h, _⟩
              · omega
              · injection h with h; exact ⟨g, h⟩
            subst hva
            have hvc : ¬ vc = j := by have := HC4.out; omega
            have HS := Lib.hid ((src_back HO4.out j (by omega)).to (alloc_keeps wc (.cells #[] 82)))
            go_wp2_with (at_builtin; refine wpList_append_src _ rfl (.tmp 42) (.tmp 45) rfl rfl wc.heap.size _ 0 [] rfl (own_emptyA (h := wc.heap.size) ?e1 (Nat.le_refl _)) (some ⟨g, j * 2, none⟩) (R.length - j) _ (cellsOf (R.drop j)) rfl HS.out (fun h => by cases h) cellsOf_one ?e2 ?e3 ?_)
            case e1 => exact alloc_at _ _
            case e2 => omega
            case e3 => simp
            intro v' w7 hown' hgrow _
            have HR := Lib.hid (rest_app hown' hgrow)
            clear hown' hgrow
            obtain ⟨rA, rc, hv'⟩ := own_form HR.out.1
            subst hv'
            go_wp2_with fail
            go_meet
            exact ⟨rA, rc, rfl, (HR.out.2.cell (p := ⟨B, 0, none⟩) hB6).trans m3, (HR.out.2.cell (p := ⟨B, 1, none⟩) hB6).trans m4, at7 hj HO4.out HR.out.1 HR.out.2 HB4.out hB6⟩
          · by_cases hvc : vc = j
            · subst hvc
              go_wp2_with (at_builtin; refine wpList_append_src _ rfl (.tmp 42) (.tmp 45) rfl rfl wc.heap.size _ 0 [] rfl (own_emptyA (h := wc.heap.size) ?e1 (Nat.le_refl _)) _ (R.length - vc) _ (cellsOf (R.drop vc)) rfl (src_end _ _ (by omega)) (fun _ => by omega) cellsOf_one ?e2 ?e3 ?_)
              case e1 => exact alloc_at _ _
              case e2 => omega
              case e3 => simp
              intro v' w7 hown' hgrow _
              have HR := Lib.hid (rest_app hown' hgrow)
              clear hown' hgrow
              obtain ⟨rA, rc, hv'⟩ := own_form HR.out.1
              subst hv'
              go_wp2_with fail
              go_meet
              exact ⟨rA, rc, rfl, (HR.out.2.cell (p := ⟨B, 0, none⟩) hB6).trans m3, (HR.out.2.cell (p := ⟨B, 1, none⟩) hB6).trans m4, at7 hj HO4.out HR.out.1 HR.out.2 HB4.out hB6⟩
            · go_wp2_with (at_builtin; refine wpList_append_src _ rfl (.tmp 42) (.tmp 45) rfl rfl wc.heap.size _ 0 [] rfl (own_emptyA (h := wc.heap.size) ?e1 (Nat.le_refl _)) _ (R.length - j) _ (cellsOf (R.drop j)) rfl (src_end _ _ (by omega)) (fun _ => by omega) cellsOf_one ?e2 ?e3 ?_)
              case e1 => exact alloc_at _ _
              case e2 => omega
              case e3 => simp
              intro v' w7 hown' hgrow _
              have HR := Lib.hid (rest_app hown' hgrow)
              clear hown' hgrow
              obtain ⟨rA, rc, hv'⟩ := own_form HR.out.1
              subst hv'
              go_wp2_with fail
              go_meet
              exact ⟨rA, rc, rfl, (HR.out.2.cell (p := ⟨B, 0, none⟩) hB6).trans m3, (HR.out.2.cell (p := ⟨B, 1, none⟩) hB6).trans m4, at7 hj HO4.out HR.out.1 HR.out.2 HB4.out hB6⟩
        case rest =>
          obtain ⟨rA, rc, rfl, m7, n7, H7⟩ := hcut
          have hjc : j ≤ vc := by have := HC4.out; omega
          have hjc1 : (0 : Int) ≤ (j : Int) := by omega
          have hjc2 : (j : Int) ≤ (vc : Int) := by omega
          clear HO4 HB4 m3 m4 hB6 HN4 HC4 hO hb
          have HI := Lib.hid (ins_fine (x := (x1, x2)) hRk hj hP.out hSt.out HE.out hUn.out hAb.out)
          go_upto_region 13 with fail
          go_region_held3 (fun w' => w'.cell? ⟨B, 0, none⟩ = some (.string x1) ∧ w'.cell? ⟨B, 1, none⟩ = some (.string x2)) (first | go_keep | exact ⟨e8, f8⟩ | exact ⟨e9, f9⟩ | exact ⟨e10, f10⟩) (first
            | (refine step_append_src _ rfl (.tmp 47) (.tmp 50) rfl rfl wc.heap.size (.slice (some ⟨wc.heap.size, 0, none⟩) 0 0) 0 [] rfl (own_emptyA (blkC _ _) (Nat.le_refl _)) va j _ (cellsOf (R.take j)) rfl (H7.front.to fun p hp => (belC wc (.cells #[] 82)).cell hp) H7.fnone cellsOf_one (by omega) (belC wc (.cells #[] 82)).size ?_; intro v1 w8 hown1 hg1 hk1; simp only [Nat.zero_add, List.nil_append] at hown1; have HB8 := mid_below hown1 (belC wc (.cells #[] 82)) hg1 (Nat.le_refl _); have HG8 := Lib.hid hg1; clear hg1; have e8 := (HB8.cell (p := ⟨B, 0, none⟩) H7.box).trans m7; have f8 := (HB8.cell (p := ⟨B, 1, none⟩) H7.box).trans n7)
            | (refine step_append_src _ rfl (.tmp 47) (.tmp 50) rfl rfl wc.heap.size (.slice (some ⟨wc.heap.size, 0, none⟩) 0 0) 0 [] rfl (own_emptyA (blkB _ _ _) (Nat.le_refl _)) va j _ (cellsOf (R.take j)) rfl (H7.front.to fun p hp => (belAB wc (.cells #[] 82) (.cells #[.string x1, .string x2] 82)).cell hp) H7.fnone cellsOf_one (by omega) (belAB wc (.cells #[] 82) (.cells #[.string x1, .string x2] 82)).size ?_; intro v1 w8 hown1 hg1 hk1; simp only [Nat.zero_add, List.nil_append] at hown1; have HB8 := mid_below hown1 (belAB wc (.cells #[] 82) (.cells #[.string x1, .string x2] 82)) hg1 (Nat.le_refl _); have HG8 := Lib.hid hg1; clear hg1; have e8 := (HB8.cell (p := ⟨B, 0, none⟩) H7.box).trans m7; have f8 := (HB8.cell (p := ⟨B, 1, none⟩) H7.box).trans n7)
            | (refine step_append_src _ rfl (.tmp 47) (.tmp 50) rfl rfl wc.heap.size (.slice (some ⟨wc.heap.size + 1, 0, none⟩) 0 0) 0 [] rfl (own_emptyA (blkA _ _ _) (Nat.le_succ _)) va j _ (cellsOf (R.take j)) rfl (H7.front.to fun p hp => (belAB wc (.cells #[.string x1, .string x2] 82) (.cells #[] 82)).cell hp) H7.fnone cellsOf_one (by omega) (belAB wc (.cells #[.string x1, .string x2] 82) (.cells #[] 82)).size ?_; intro v1 w8 hown1 hg1 hk1; simp only [Nat.zero_add, List.nil_append] at hown1; have HB8 := mid_below hown1 (belAB wc (.cells #[.string x1, .string x2] 82) (.cells #[] 82)) hg1 (Nat.le_succ _); have HG8 := Lib.hid hg1; clear hg1; have e8 := (HB8.cell (p := ⟨B, 0, none⟩) H7.box).trans m7; have f8 := (HB8.cell (p := ⟨B, 1, none⟩) H7.box).trans n7)
            | (refine step_append_src _ rfl (.tmp 51) (.tmp 53) rfl rfl wc.heap.size v1 j _ rfl (hown1.alloc (.cells #[.string x1, .string x2] 82)) (some ⟨w8.heap.size, 0, none⟩) 1 _ [.string x1, .string x2] rfl (src_box (blk_alloc_new _ _)) (fun h => by cases h) pair_one (by omega) (bel8 HB8 (.cells #[.string x1, .string x2] 82)).size ?_; intro v2 w9 hown2 hg2 hk2; have HB9 := mid_below2 hown1 (bel8 HB8 (.cells #[.string x1, .string x2] 82)) hg2; clear hg2; have e9 := (HB9.cell (p := ⟨B, 0, none⟩) H7.box).trans m7; have f9 := (HB9.cell (p := ⟨B, 1, none⟩) H7.box).trans n7)
            | (refine step_append_src _ rfl (.tmp 51) (.tmp 53) rfl rfl wc.heap.size v1 j _ rfl hown1 (some ⟨wc.heap.size + 1, 0, none⟩) 1 _ [.string x1, .string x2] rfl (src_box (keepB HG8.out)) (fun h => by cases h) pair_one (by omega) (HB8).size ?_; intro v2 w9 hown2 hg2 hk2; have HB9 := mid_below2 hown1 (HB8) hg2; clear hg2; have e9 := (HB9.cell (p := ⟨B, 0, none⟩) H7.box).trans m7; have f9 := (HB9.cell (p := ⟨B, 1, none⟩) H7.box).trans n7)
            | (refine step_append_src _ rfl (.tmp 51) (.tmp 53) rfl rfl wc.heap.size v1 j _ rfl hown1 (some ⟨wc.heap.size, 0, none⟩) 1 _ [.string x1, .string x2] rfl (src_box (keepA HG8.out)) (fun h => by cases h) pair_one (by omega) (HB8).size ?_; intro v2 w9 hown2 hg2 hk2; have HB9 := mid_below2 hown1 (HB8) hg2; clear hg2; have e9 := (HB9.cell (p := ⟨B, 0, none⟩) H7.box).trans m7; have f9 := (HB9.cell (p := ⟨B, 1, none⟩) H7.box).trans n7)
            | (refine step_append_src _ rfl (.tmp 54) (.tmp 55) rfl rfl wc.heap.size v2 (j + 1) _ rfl hown2 rA (R.length - j) _ (cellsOf (R.drop j)) rfl (H7.rest.to fun p hp => HB9.cell hp) H7.rnone cellsOf_one (by omega) HB9.size ?_; intro v3 w10 hown3 hg3 hk3; have HR10 := Lib.hid (ins_done hj H7.below hown2 hown3 HB9 hg3); clear hg3; have e10 := (HR10.out.2.2.cell (p := ⟨B, 0, none⟩) H7.box).trans m7; have f10 := (HR10.out.2.2.cell (p := ⟨B, 1, none⟩) H7.box).trans n7))
          all_goals
            have HF10 := HI
            have HO10 := Lib.hid HR10.out.1
            have HB10 := Lib.hid HR10.out.2.1
            clear hown1 hown2 hown3 HB8 HG8 HB9 HR10 e8 f8 e9 f9 e10 f10 hk1 hk2 hk3
            go_wp2_with fail
            go_roundw
            case rel => exact ⟨k + 1, R.take j ++ (x1, x2) :: R.drop j, by omega, by go_num, HF10.out.1, HO10, fun h => absurd h (by simp), HF10.out.2.1, HF10.out.2.2, HB10⟩
            case measure => simp [intOf]; omega
    · obtain rfl : k = l.length := by omega
      rw [List.take_length] at hP
      have HK := Lib.hid (fun v (h : wr.ownsRow w.heap.size 82 2 v R.length (cellsOf R)) => sortEnd_yes HZ.out ⟨hP.out, hSt.out⟩ h hb.out)
      go_wp2
      go_ret3
      exact HK.out _ hO.out
end Go.Proofs.YtpbcgfgjdimpmaaDoor
