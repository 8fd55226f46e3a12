/- Going over a list of samples eight by eight: the contract of the iterator of slices.Chunk, over this seat's translation. -/
import Derived.Test.YteiefngamccapaaK9
import Derived.Test.YteiefngamccapaaCpMath
import Derived.RangeFuncNested
import Derived.RangeFuncBound
import Derived.RangeFuncCalls
import Derived.RangeFuncLeaves
import Derived.Shelf.Abstract
import Derived.Shelf.RegionOpen
import Derived.WalkKit
import Derived.OwnWalkIn
import Derived.TacticsInMore
import Derived.RegionIn
import Derived.LoopNIn
import Derived.LoopIn
namespace Go.Proofs.Yteiefngamccapaa
open Go.RowKit Go.Shelf
attribute [local go_sem] Oper.semAt_some

/-- What a round keeps: every block that is neither a series nor a row of chunks. -/
def KpX (W W' : World) : Prop := ∀ (g : Nat) (cs : Array Value) (t : TypeId), t ≠ 29 → t ≠ 85 → W.heap[g]? = some (.cells cs t) → W'.heap[g]? = some (.cells cs t)
theorem KpX.refl (W : World) : KpX W W := fun _ _ _ _ _ h => h
theorem KpX.trans {A B C : World} (h : KpX A B) (k : KpX B C) : KpX A C := fun g cs t h1 h2 h3 => k g cs t h1 h2 (h g cs t h1 h2 h3)
theorem KpX.put (W : World) (l : Nat) (o o' : Obj) (hl : W.heap[l]? = some o) (ho : o.isCells = false) : KpX W (W.putObj l o') := fun g cs t _ _ h => by
  rw [World.putObj_heap_other (fun e => ?_)]
  · exact h
  · subst e
    rw [hl] at h
    injection h with h
    rw [h] at ho
    cases ho
theorem KpX.of_below {W W' : World} (hb : Below W.heap.size W W') : KpX W W' := fun g _ _ _ _ h => (hb.block g (Array.getElem?_eq_some_iff.1 h).1).trans h
theorem KpX.boxed {W W' : World} {B : Nat} {t : TypeId} {v : Value} (h : KpX W W') (h1 : t ≠ 29) (h2 : t ≠ 85) (hb : Boxed W B t v) : Boxed W' B t v := h B _ t h1 h2 hb
/-- A piece: its place, and where its slice begins. -/
def PcOk (o0 : Option Addr) (xs : List Smp) (p : Nat × Option Addr) : Prop := 8 * p.1 < xs.length ∧ ∀ W B, SRow W B o0 xs → SRow W B p.2 ((xs.drop (8 * p.1)).take 8)
abbrev Pcs (o0 : Option Addr) (xs : List Smp) := { p : Nat × Option Addr // PcOk o0 xs p }
def Up {o0 : Option Addr} {xs : List Smp} (pre : List (Pcs o0 xs)) : Prop := ∀ j (h : j < pre.length), (pre[j]'h).1.1 = j
theorem Up.nil {o0 : Option Addr} {xs : List Smp} : Up ([] : List (Pcs o0 xs)) := fun j h => by simp at h
theorem Up.snoc {o0 : Option Addr} {xs : List Smp} {pre : List (Pcs o0 xs)} (h : Up pre) (x : Pcs o0 xs) (hx : x.1.1 = pre.length) : Up (pre ++ [x]) := fun j hj => by
  by_cases e : j < pre.length
  · rw [List.getElem_append_left e]; exact h j e
  · rw [List.length_append, List.length_singleton] at hj
    obtain rfl : j = pre.length := by omega
    rw [List.getElem_append_right (by omega)]
    simpa using hx
abbrev ckV {o0 : Option Addr} {xs : List Smp} (p : Pcs o0 xs) : Array Value := #[.slice p.1.2 ((xs.drop (8 * p.1.1)).take 8).length ((xs.drop (8 * p.1.1)).take 8).length]
theorem cut_mid (ao : Option Addr) (l : List Smp) (a k cp : Nat) (hk : a + k ≤ l.length) (h0 : 0 < k) (hc : l.length ≤ cp) : ∃ o' : Option Addr,
    (∀ W, (Instr.slice 50 (.slice ao l.length cp) (some (.int .i64 (a : Int))) (some (.int .i64 ((a : Int) + (k : Int)))) (some (.int .i64 ((a : Int) + (k : Int))))).run Try.prog W = .ok (.slice o' k k) W) ∧
    ∀ W B, SRow W B ao l → SRow W B o' ((l.drop a).take k) := by
  refine ⟨ao.map (·.add (a * 2)), fun W => ?_, fun W B h => ?_⟩
  · rw [run_slice_lhm W 50 ao l.length cp elem32 .i64 .i64 .i64 a ((a : Int) + k) ((a : Int) + k) (by omega) (by omega) (by omega) (by omega), size32]
    have e1 : ((a : Int) + (k : Int)).toNat = a + k := by omega
    simp only [Result.andThen, sliced, e1, Int.toNat_natCast]
    rw [if_neg (by omega), Nat.add_sub_cancel_left]
  · intro hl
    rw [List.length_take, List.length_drop] at hl
    obtain ⟨b, off, e, _⟩ := h (by omega)
    subst e
    have : (Option.map (·.add (a * 2)) (some ⟨b, off, none⟩ : Option Addr)) = some ⟨b, off + a * 2, none⟩ := by simp [Go.WideShapes.add_plain]
    rw [this]
    exact (h.drop a).take k (by rw [List.length_take, List.length_drop]; omega)

set_option maxRecDepth 100000 in
set_option maxHeartbeats 4000000 in
theorem iterC (n : Nat) (hn : 1 ≤ n) (lp Bs Bn B : Nat) (o0 : Option Addr) (c0 : Nat) (xs : List Smp) (hl : xs.length ≤ 48) (hc : xs.length ≤ c0) (J Jx : List (Pcs o0 xs) → World → Prop) (hJ : AbidesFrom B J)
    (hY : ∀ pre x W, J pre W → pre.length < 100 → YieldAt Fence.wide (n - 1) Try.prog lp (ckV x) W fun e W' =>
      (e = .returned (.bool true) ∧ J (pre ++ [x]) W' ∧ KpX W W') ∨ (e = .returned (.bool false) ∧ Jx (pre ++ [x]) W'))
    (W : World) (hBs : Boxed W Bs 50 (.slice o0 xs.length c0)) (hBn : Boxed W Bn 3 (.int .i64 8)) (h0 : J [] W) :
    CallsIn Fence.wide n Try.prog 90 #[.func (.yield lp) #[] #[], .pointer (some ⟨Bs, 0, none⟩), .pointer (some ⟨Bn, 0, none⟩)] W fun e W' => (∃ v, e = .returned v) ∧
      ((∃ ys, (Up ys ∧ xs.length ≤ 8 * ys.length ∧ 8 * ys.length ≤ xs.length + 7) ∧ J ys W') ∨ (∃ pre, True ∧ Jx pre W')) := by
  have HJ := Lib.hid (fun (ys : List (Pcs o0 xs)) (A C : World) (hj : J ys A) (hb : Below A.heap.size A C) => hJ ys A C none hj (gb_below hb) (fun r e => by cases e))
  have HY := Lib.hid hY
  have HBs := Lib.hid hBs
  have HBn := Lib.hid hBn
  have H0 := Lib.hid h0
  clear hJ hY hBs hBn h0
  refine callsIn_of_wp Try.func90 rfl trivial ?_ rfl
  simp only [Try.ntmps90, List.size_toArray, List.length_cons, List.length_nil, Nat.reduceAdd, Nat.reduceSub, Array.replicate_succ, Array.replicate_zero, List.push_toArray, List.append_toArray, List.nil_append, List.cons_append]
  gi_wp2
  gi_loopw [4] (fun i wr => ∃ (pre : List (Pcs o0 xs)), i = .int .i64 ((8 * pre.length : Nat) : Int) ∧ 8 * pre.length ≤ xs.length + 7 ∧ Hid (Up pre) ∧ Hid (J pre wr) ∧ Hid (Boxed wr Bs 50 (.slice o0 xs.length c0)) ∧ Hid (Boxed wr Bn 3 (.int .i64 8))) (fun i _ => xs.length + 8 - (intOf i).toNat)
  case atStart => exact ⟨[], rfl, by simp, Lib.hid Up.nil, H0, HBs, HBn⟩
  case round =>
    obtain ⟨pre, rfl, h7, hU, hj, hs, hb⟩ := hrel
    have c1 := hs.out.cell
    have c2 := hb.out.cell
    obtain ⟨a, ha⟩ : ∃ a : Nat, a = 8 * pre.length := ⟨_, rfl⟩
    rw [← ha]
    by_cases hlt : a < xs.length
    case neg =>
      have HE := Lib.hid (show xs.length ≤ 8 * pre.length by omega)
      clear ha
      gi_wp2
      go_end0
      exact ⟨⟨_, rfl⟩, .inl ⟨pre, ⟨hU.out, HE.out, h7⟩, hj.out⟩⟩
    obtain ⟨k, hk⟩ : ∃ k : Nat, k = ((xs.drop (8 * pre.length)).take 8).length := ⟨_, rfl⟩
    have hk2 : k = min 8 (xs.length - a) := by rw [hk, List.length_take, List.length_drop, ha]
    obtain ⟨o', hm1, hm2⟩ := cut_mid o0 xs a k c0 (by omega) (by omega) hc
    obtain ⟨oa, ob, _, hl2, _⟩ := cut_slices o0 xs a c0 (by omega) hc
    have hpk : PcOk o0 xs (pre.length, o') := ⟨by simp only; omega, fun W B h => by
      have := hm2 W B h
      have e : (xs.drop a).take k = (xs.drop (8 * pre.length)).take 8 := by
        rw [← ha]
        by_cases h8 : 8 ≤ xs.length - a
        · rw [show k = 8 by omega]
        · rw [List.take_of_length_le (by rw [List.length_drop]; omega), List.take_of_length_le (by rw [List.length_drop]; omega)]
      rw [e] at this
      exact this⟩
    have hb1 := (Below.refl wr.heap.size wr).drew
    have HJ1 := Lib.hid (HJ.out _ _ _ hj.out hb1)
    obtain ⟨fn, tmps, assign, body, hy, hRd⟩ := HY.out pre ⟨(pre.length, o'), hpk⟩ wr.drew HJ1.out (by omega)
    have HUs := Lib.hid (hU.out.snoc ⟨(pre.length, o'), hpk⟩ rfl)
    simp only [ckV] at hy
    rw [← hk] at hy
    obtain ⟨r, hr⟩ : ∃ r : Nat, r = xs.length - a := ⟨_, rfl⟩
    rw [← hr] at hl2 hk2
    have hmin : (min (8 : Int) (r : Int)) = (k : Int) := by rw [hk2]; omega
    obtain ⟨E, hE⟩ : ∃ E : Int, E = (a : Int) + (k : Int) := ⟨_, rfl⟩
    rw [← hE] at hm1
    have hw : (a : Int) + (k : Int) = E := hE.symm
    have ha0 : (0 : Int) ≤ (a : Int) := by omega
    have hlti : (a : Int) < (xs.length : Int) := by omega
    have hk48 : (k : Int) ≤ 8 := by omega
    have ha48 : (a : Int) ≤ 48 := by omega
    have hk0 : (0 : Int) ≤ (k : Int) := by omega
    have HA := Lib.hid ha
    have HK := Lib.hid hk2
    have HEe := Lib.hid hE
    clear ha hk hk2 hE hm2 hr
    gi_wp2_with fail
    gi_region
    all_goals
      gi_wp2
      refine hRd.mono ?_
      rintro e W3 (⟨rfl, hJ3, hk3⟩ | ⟨rfl, hJx3⟩)
      · have HJ3 := Lib.hid hJ3
        have HB3 := Lib.hid (hk3.boxed (by decide) (by decide) (show Boxed wr.drew Bs _ _ from hs.out))
        have HC3 := Lib.hid (hk3.boxed (by decide) (by decide) (show Boxed wr.drew Bn _ _ from hb.out))
        clear hJ3 hk3 c1 c2
        have d2 := HC3.out.cell
        gi_wp2
        go_roundw
        case rel => exact ⟨pre ++ [⟨(pre.length, o'), hpk⟩], by rw [List.length_append, List.length_singleton]; have := HA.out; go_num, by rw [List.length_append, List.length_singleton]; have := HA.out; omega, HUs, HJ3, HB3, HC3⟩
        case measure => simp [intOf]; omega
      · gi_wp2
        refine bodyPost_ret (results_none rfl _ _ _) rfl ?_
        exact ⟨⟨_, rfl⟩, .inr ⟨_, trivial, hJx3⟩⟩
end Go.Proofs.Yteiefngamccapaa
