/- Going over a list of chunks from its end: the contract of the iterator of slices.Backward, over this seat's translation. -/
import Derived.Test.YteiefngamccapaaK4
import Derived.Test.YteiefngamccapaaK9
import Derived.RangeFuncNested
import Derived.RangeFuncBound
import Derived.RangeFuncCalls
import Derived.RangeFuncLeaves
import Derived.Shelf.Abstract
import Derived.Shelf.RegionOpen
import Derived.WalkKit
import Derived.OwnWalkIn
import Derived.TacticsInMore
import Derived.LoopNIn
import Derived.LoopIn
namespace Go.Proofs.Yteiefngamccapaa
open Go.RowKit Go.Shelf
attribute [local go_sem] Oper.semAt_some

/-- What a round keeps: every block of cells. -/
def KpC (W W' : World) : Prop := ∀ (g : Nat) (o : Obj), o.isCells = true → W.heap[g]? = some o → W'.heap[g]? = some o
theorem KpC.refl (W : World) : KpC W W := fun _ _ _ h => h
theorem KpC.trans {A B C : World} (h : KpC A B) (k : KpC B C) : KpC A C := fun g o h1 h2 => k g o h1 (h g o h1 h2)
theorem KpC.put (W : World) (l : Nat) (o o' : Obj) (hl : W.heap[l]? = some o) (ho : o.isCells = false) : KpC W (W.putObj l o') := fun g u hu h => by
  rw [World.putObj_heap_other (fun e => ?_)]
  · exact h
  · subst e
    rw [hl] at h
    injection h with h
    rw [h, hu] at ho
    cases ho
theorem KpC.of_below {W W' : World} (hb : Below W.heap.size W W') : KpC W W' := fun g _ _ h => (hb.block g (Array.getElem?_eq_some_iff.1 h).1).trans h
theorem KpC.cell {W W' : World} (h : KpC W W') {a : Addr} {v : Value} (hc : W.cell? a = some v) : W'.cell? a = some v := by
  cases hb : W.heap[a.block]? with
  | none => simp [World.cell?, hb] at hc
  | some o =>
    cases o with
    | cells c t f => rw [World.cell?_of_block (w := W) (w' := W') ((h _ _ rfl hb).trans hb.symm)]; exact hc
    | _ => simp [World.cell?, hb] at hc
theorem KpC.boxed {W W' : World} {B : Nat} {t : TypeId} {v : Value} (h : KpC W W') (hb : Boxed W B t v) : Boxed W' B t v := h B _ rfl hb
theorem KpC.crow {W W' : World} {B : Nat} {ao : Option Addr} {l : List Chk} (h : KpC W W') (hr : CRow W B ao l) : CRow W' B ao l := fun hl => by
  obtain ⟨b, off, e, hb, hc⟩ := hr hl
  exact ⟨b, off, e, hb, fun k hk j v hv => h.cell (hc k hk j v hv)⟩
/-- Places that fall, from the last one on. -/
def Dn {n : Nat} (pre : List (Fin n)) : Prop := ∀ j (h : j < pre.length), (pre[j]'h).val + j + 1 = n
theorem Dn.nil {n : Nat} : Dn ([] : List (Fin n)) := fun j h => by simp at h
theorem Dn.snoc {n : Nat} {pre : List (Fin n)} (h : Dn pre) (x : Fin n) (hx : x.val + pre.length + 1 = n) : Dn (pre ++ [x]) := fun j hj => by
  by_cases e : j < pre.length
  · rw [List.getElem_append_left e]; exact h j e
  · rw [List.length_append, List.length_singleton] at hj
    obtain rfl : j = pre.length := by omega
    rw [List.getElem_append_right (by omega)]
    simpa using hx
abbrev bkV (l : List Chk) (i : Fin l.length) : Array Value := #[.int .i64 (i.val : Int), .agg #[.string (l[i.val]).1, .int .i64 (l[i.val]).2.1, .int .i64 (l[i.val]).2.2.1, .int .i64 (l[i.val]).2.2.2]]

set_option maxRecDepth 100000 in
set_option maxHeartbeats 4000000 in
theorem iterB (n : Nat) (hn : 1 ≤ n) (lp Bn B0 : Nat) (ao : Option Addr) (cap : Nat) (l : List Chk) (hl : l.length ≤ 1048576) (J Jx : List (Fin l.length) → World → Prop)
    (hY : ∀ pre x W, J pre W → pre.length < l.length → YieldAt Fence.wide (n - 1) Try.prog lp (bkV l x) W fun e W' =>
      (e = .returned (.bool true) ∧ J (pre ++ [x]) W' ∧ KpC W W') ∨ (e = .returned (.bool false) ∧ Jx (pre ++ [x]) W'))
    (W : World) (hBn : Boxed W Bn 27 (.slice ao l.length cap)) (hR : CRow W B0 ao l) (h0 : J [] W) :
    CallsIn Fence.wide n Try.prog 101 #[.func (.yield lp) #[] #[], .pointer (some ⟨Bn, 0, none⟩)] W fun e W' => (∃ v, e = .returned v) ∧
      ((∃ ys, (Dn ys ∧ ys.length = l.length) ∧ J ys W') ∨ (∃ pre, Dn pre ∧ Jx pre W')) := by
  have HY := Lib.hid hY
  have HBn := Lib.hid hBn
  have HR := Lib.hid hR
  have H0 := Lib.hid h0
  have c0 := hBn.cell
  clear hY hBn hR h0
  refine callsIn_of_wp Try.func101 rfl trivial ?_ rfl
  simp only [Try.ntmps101, List.size_toArray, List.length_cons, List.length_nil, Nat.reduceAdd, Nat.reduceSub, Array.replicate_succ, Array.replicate_zero, List.push_toArray, List.append_toArray, List.nil_append, List.cons_append]
  gi_wp2
  gi_loopw [3] (fun i wr => ∃ (pre : List (Fin l.length)) (m : Nat), pre.length + m = l.length ∧ i = .int .i64 ((m : Int) - 1) ∧ Hid (Dn pre) ∧ Hid (J pre wr) ∧ Hid (Boxed wr Bn 27 (.slice ao l.length cap)) ∧ Hid (CRow wr B0 ao l)) (fun i _ => (intOf i + 1).toNat)
  case atStart => exact ⟨[], l.length, by simp, rfl, Lib.hid Dn.nil, H0, HBn, HR⟩
  case round =>
    obtain ⟨pre, m, hm, rfl, hD, hJ, hBx, hCr⟩ := hrel
    clear c0
    rcases m with _ | j
    · rw [show (((0 : Nat) : Int) - 1) = -1 from rfl]
      gi_wp2
      go_end0
      exact ⟨⟨_, rfl⟩, .inl ⟨pre, ⟨hD.out, by omega⟩, hJ.out⟩⟩
    · have hjl : j < l.length := by omega
      rw [show (((j + 1 : Nat) : Int) - 1) = (j : Int) by omega]
      obtain ⟨b, off, hao, hbl, d0, d1, d2, d3⟩ := hCr.out.oneC hjl
      have c1 := hBx.out.cell
      obtain ⟨fn, tmps, assign, body, hy, hRd⟩ := HY.out pre ⟨j, hjl⟩ wr hJ.out (by omega)
      have HDs := Lib.hid (hD.out.snoc ⟨j, hjl⟩ (by simp only; omega))
      simp only [bkV] at hy
      have hj0 : (0 : Int) ≤ (j : Int) := by omega
      have hj1 : (j : Int) < (l.length : Int) := by omega
      subst hao
      gi_wp2
      refine hRd.mono ?_
      rintro e W3 (⟨rfl, hJ3, hk3⟩ | ⟨rfl, hJx3⟩)
      · have HJ3 := Lib.hid hJ3
        have HB3 := Lib.hid (hk3.boxed hBx.out)
        have HC3 := Lib.hid (hk3.crow hCr.out)
        clear hJ3 hk3
        gi_wp2
        go_roundw
        case rel => exact ⟨pre ++ [⟨j, hjl⟩], j, by simp; omega, rfl, HDs, HJ3, HB3, HC3⟩
        case measure => simp [intOf]
      · gi_wp2
        refine bodyPost_ret (results_none rfl _ _ _) rfl ?_
        exact ⟨⟨_, rfl⟩, .inr ⟨_, HDs.out, hJx3⟩⟩
end Go.Proofs.Yteiefngamccapaa
