/- The contract of the iterator over the samples of a text, over this seat's translation: what comes is what was packed, where something was packed. -/
import Derived.Test.YteiefngamccapaaFt
import Derived.Test.YteiefngamccapaaSmMath
import Derived.Test.YteiefngamccapaaBase
import Derived.Test.YteiefngamccapaaPk
import Derived.RangeFuncNested
import Derived.RangeFuncBound
import Derived.RangeFuncCalls
import Derived.RangeFuncLeaves
import Derived.Shelf.Abstract
import Derived.Shelf.RegionOpen
import Derived.WalkKit
import Derived.OwnWalkIn
import Derived.TacticsInMore
import Derived.LoopNIn
import Derived.LoopIn
namespace Go.Proofs.Yteiefngamccapaa
open Go.RowKit Go.Shelf
attribute [local go_sem] Oper.semAt_some

/-- What is gathered out of a text: what was packed there, if something was. -/
def Col (D : List UInt8) (xs : List Smp) : Prop := FitS xs ∧ xs.length ≤ 60 ∧ (∀ l, FitS l → l.length ≤ 60 → D = packB l → xs = l) ∧ (D = [] → xs = [])
theorem col_none {D : List UInt8} (h : ∀ us, ¬ Fr D us) : Col D [] := ⟨fun x hx => by simp at hx, by simp, fun l hl h60 hD => absurd (hD ▸ packB_front hl h60) (h _), fun _ => rfl⟩
theorem at_pos {D : List UInt8} {m a : Nat} {us : List Nat} (h : At D m us a) : D ≠ [] := by
  intro e
  have h1 := congrArg List.length h.1
  rw [e, List.length_append] at h1
  have hp := putV_pos m
  rw [List.length_nil] at h1
  omega
theorem col_stop {D : List UInt8} {a : Nat} {us vs : List Nat} (h : At D us.length (us ++ vs) a) (h60 : us.length ≤ 60) (hv : vs.length < us.length) (hr : readV (D.drop a) = none) : Col D (smpOf us vs) :=
  ⟨smpOf_fit (fit_left h.2.2), by rw [smpOf_len (by omega)]; omega, fun l hl _ hD => absurd hD (read_stop h rfl hv hr hl), fun e => absurd e (at_pos h)⟩
theorem col_all {D : List UInt8} {a : Nat} {us vs : List Nat} (h : At D us.length (us ++ vs) a) (h60 : us.length ≤ 60) (hv : vs.length = us.length) : Col D (smpOf us vs) :=
  ⟨smpOf_fit (fit_left h.2.2), by rw [smpOf_len (by omega)]; omega, fun l hl _ hD => (read_back h rfl hv hl hD).1, fun e => absurd e (at_pos h)⟩
abbrev smpV (x : Smp) : Array Value := #[.agg #[.int .i64 x.1, .float .f64 x.2]]

set_option maxRecDepth 100000 in
set_option maxHeartbeats 4000000 in
theorem iter108 (n : Nat) (hn : 1 ≤ n) (l Bn B : Nat) (s : ByteArray) (hs : s.size ≤ 1048576) (J Jx : List Smp → World → Prop) (hJ : AbidesFrom B J)
    (hY : ∀ pre x W, J pre W → pre.length < 60 → YieldAt Fence.wide (n - 1) Try.prog l (smpV x) W fun e W' =>
      (e = .returned (.bool true) ∧ J (pre ++ [x]) W' ∧ KpT W W') ∨ (e = .returned (.bool false) ∧ Jx (pre ++ [x]) W'))
    (W : World) (hBn : Boxed W Bn 9 (.string s)) (h0 : J [] W) :
    CallsIn Fence.wide n Try.prog 111 #[.func (.yield l) #[] #[], .pointer (some ⟨Bn, 0, none⟩)] W fun e W' => (∃ v, e = .returned v) ∧
      ((∃ ys, Col s.data.toList ys ∧ J ys W') ∨ (∃ pre, True ∧ Jx pre W')) := by
  have HJ := Lib.hid (fun (ys : List Smp) (A C : World) (hj : J ys A) (hb : Below A.heap.size A C) => hJ ys A C none hj (gb_below hb) (fun r e => by cases e))
  have HY := Lib.hid hY
  have HF := Lib.hid (fun A => frontT71 s hs A)
  have HR38 := Lib.hid (fun a ha A => read38 s a hs ha A)
  have hlen : s.data.toList.length = s.size := rfl
  obtain ⟨D, hD⟩ : ∃ D, D = s.data.toList := ⟨_, rfl⟩
  rw [← hD] at HF HR38 hlen ⊢
  have HBn := Lib.hid hBn
  have H0 := Lib.hid h0
  have hc0 := hBn.cell
  clear hD hJ hY hBn h0
  refine callsIn_of_wp Try.func111 rfl trivial ?_ rfl
  simp only [Try.ntmps111, List.size_toArray, List.length_cons, List.length_nil, Nat.reduceAdd, Nat.reduceSub, Array.replicate_succ, Array.replicate_zero, List.push_toArray, List.append_toArray, List.nil_append, List.cons_append]
  gi_wp2_with fail
  refine ⟨trivial, ?_⟩
  refine (callsIn_wide.2 (HF.out W)).mono ?_
  rintro e w1 ⟨⟨rfl, hno⟩ | ⟨us, a, bo, c, hat, h60, rfl, hR⟩, hb1⟩
  · have HC := Lib.hid (col_none hno)
    have HJ1 := Lib.hid (HJ.out _ _ _ H0.out hb1)
    clear hno hb1
    gi_wp2
    gi_loopw [20] (fun i wr => i = .int .i64 0 ∧ Hid (J [] wr)) (fun _ _ => 0)
    case atStart => exact ⟨rfl, HJ1⟩
    case round =>
      obtain ⟨rfl, hj⟩ := hrel
      gi_wp2
      go_end0
      exact ⟨⟨_, rfl⟩, .inl ⟨[], HC.out, hj.out⟩⟩
  have HJ1 := Lib.hid (HJ.out _ _ _ H0.out hb1)
  have HB1 : Hid (Boxed w1 Bn 9 (.string s)) := Lib.hid (HBn.out.kept (gb_below hb1 (row := none)) (by simp))
  have HR := Lib.hid hR
  have HA := Lib.hid (show At D us.length (us ++ []) a by rw [List.append_nil]; exact hat)
  clear hR hb1 hat hc0 H0 HBn
  gi_wp2
  gi_loopw [4, 6, 20] (fun ap q i wr => ∃ (vs : List Nat) (a : Nat), vs.length ≤ us.length ∧ ap = .int .i64 a ∧ q = .int .u64 (lastX vs : Nat) ∧ i = .int .i64 vs.length ∧ Hid (At D us.length (us ++ vs) a) ∧ Hid (J (smpOf us vs) wr) ∧ Hid (Boxed wr Bn 9 (.string s)) ∧ Hid (RowT wr bo us.length c (at0 (decode us)) 153)) (fun _ _ i _ => us.length - (intOf i).toNat)
  case atStart => exact ⟨[], a, Nat.zero_le _, rfl, by rw [lastX_nil]; rfl, rfl, HA, by rw [smpOf_nil]; exact HJ1, HB1, HR⟩
  case round =>
    obtain ⟨vs, a, hle, rfl, rfl, rfl, hA, hj, hbx, hrw⟩ := hrel
    have hal := at_le hA.out
    by_cases hlt : vs.length < us.length
    · obtain ⟨g, N, hbo, hRF⟩ := hrw.out.2 (by omega)
      subst hbo
      have c0 := hRF.cell hlt
      have c1 := hbx.out.cell
      clear hRF
      obtain ⟨x, hx⟩ : ∃ x, x = at0 (decode us) vs.length := ⟨_, rfl⟩
      have HX := Lib.hid hx
      rw [← hx] at c0
      clear hx
      gi_wp2_with fail
      refine ⟨trivial, ?_⟩
      refine (callsIn_wide.2 (HR38.out a (by omega) _)).mono ?_
      rintro e w2 ⟨⟨hno, rfl⟩ | ⟨u, hu, rfl⟩, hb2⟩
      · have HC := Lib.hid (col_stop hA.out h60 hlt hno)
        have HJ2 := Lib.hid (HJ.out _ _ _ hj.out hb2)
        clear hno hb2
        gi_wp2
        refine bodyPost_ret (results_none rfl _ _ _) rfl ?_
        exact ⟨⟨_, rfl⟩, .inl ⟨_, HC.out, HJ2.out⟩⟩
      have hst := readV_is hu
      have HJ2 := Lib.hid (HJ.out _ _ _ hj.out hb2)
      have HB2 : Hid (Boxed w2 Bn 9 (.string s)) := Lib.hid (hbx.out.kept (gb_below hb2 (row := none)) (by simp))
      have HR2 := Lib.hid (hrw.out.below hb2)
      have HA2 : Hid (At D us.length (us ++ (vs ++ [u])) (a + (putV u).length)) := Lib.hid (by rw [← List.append_assoc]; exact at_next hA.out hst)
      have HFl := Lib.hid (fun A => flip19 u hst.1 A)
      have HXo := Lib.hid (xor_run (lastX_lt vs) (flipN_lt u))
      have HLs := Lib.hid (lastX_snoc vs u)
      have HSn := Lib.hid (smpOf_snoc (us := us) (vs := vs) u hlt)
      have HLn := Lib.hid (smpOf_len (us := us) (vs := vs) (by omega))
      have hl0 : (vs ++ [u]).length = vs.length + 1 := by simp
      have HL0 := Lib.hid hl0
      rw [← HX.out] at HSn
      obtain ⟨E, hE⟩ : ∃ E : Nat, E = a + (putV u).length := ⟨_, rfl⟩
      rw [← hE] at HA2 ⊢
      clear hu hb2 hst hE hl0 hA hj hbx hrw c0 c1
      generalize flipN u = f at HFl HXo HLs
      gi_wp2_with fail
      refine ⟨trivial, ?_⟩
      refine (callsIn_wide.2 (HFl.out _)).mono ?_
      rintro e w3 ⟨rfl, rfl⟩
      have hxor := HXo.out
      generalize lastX vs = p at HLs hxor ⊢
      rw [← HLs.out] at hxor
      obtain ⟨y, hy⟩ : ∃ y, y = lastX (vs ++ [u]) := ⟨_, rfl⟩
      have HYy := Lib.hid hy
      rw [← hy] at hxor HSn
      clear hy HXo HLs
      gi_wp2_with fail
      refine ⟨trivial, ?_⟩
      refine (callsIn_wide.2 (from22 (y : Int) _)).mono ?_
      rintro e w4 ⟨rfl, rfl⟩
      rw [Int.toNat_natCast]
      obtain ⟨fn, tmps, assign, body, hy, hRd⟩ := HY.out (smpOf us vs) (x, y) w2 HJ2.out (by rw [HLn.out]; omega)
      simp only [smpV] at hy
      gi_wp2
      refine hRd.mono ?_
      rintro e W3 (⟨rfl, hJ3, hk3⟩ | ⟨rfl, hJx3⟩)
      · have HJ3 := Lib.hid hJ3
        rw [← HSn.out] at HJ3
        have HB3 := Lib.hid (hk3.boxed (by decide) (by decide) HB2.out)
        have HR3 := Lib.hid (hk3.rowT HR2.out)
        clear hJ3 hk3
        gi_wp2
        go_roundw
        case rel => exact ⟨vs ++ [u], E, by rw [HL0.out]; omega, by go_num, by rw [HYy.out], by rw [HL0.out]; go_num, HA2, HJ3, HB3, HR3⟩
        case measure => simp [intOf]; omega
      · gi_wp2
        refine bodyPost_ret (results_none rfl _ _ _) rfl ?_
        exact ⟨⟨_, rfl⟩, .inr ⟨_, trivial, hJx3⟩⟩
    · have HC := Lib.hid (col_all hA.out h60 (by omega))
      gi_wp2
      go_end0
      exact ⟨⟨_, rfl⟩, .inl ⟨_, HC.out, hj.out⟩⟩

theorem iter_stops (n : Nat) (hn : 1 ≤ n) (Bn : Nat) (s : ByteArray) (hs : s.size ≤ 1048576) (w : World) (hBn : Boxed w Bn 9 (.string s)) :
    SeqStopsK Fence.wide n Try.prog 111 #[.pointer (some ⟨Bn, 0, none⟩)] smpV KpT (Col s.data.toList) (fun _ => True) 60 w := fun l J Jx W hW hJ _ hY h0 =>
  iter108 n hn l Bn W.heap.size s hs J Jx hJ hY W (hBn.kept (gb_below hW (row := none)) (by simp)) h0
theorem in78 (s : ByteArray) (w : World) : Calls Try.prog 92 #[.string s] w fun e w' => e = .returned (.func (.func 111) #[] #[.pointer (some ⟨w.heap.size, 0, none⟩)]) ∧ w' = w.alloc (.cells #[.string s] 9) := by
  go_enter Try.func92, Try.ntmps92
  go_wp2
  go_ret
  exact ⟨rfl, rfl⟩
end Go.Proofs.Yteiefngamccapaa
