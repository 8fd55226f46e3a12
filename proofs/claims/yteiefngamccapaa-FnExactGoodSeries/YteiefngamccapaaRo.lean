/- Rows of numbers in a block, and contracts of what goes over them: what differs, sums, copies, marks; over this seat's translation. -/
import Derived.Test.YteiefngamccapaaPl
import Derived.Deep.RegionHeld3
import Derived.Maps.Range
namespace Go.Proofs.Yteiefngamccapaa
open Go.RowKit Go.Deep

/-- Block g holds N cells; the first n of them are the numbers f. -/
def RF (w : World) (g : Nat) (t : TypeId) (N n : Nat) (f : Nat → Int) : Prop := n ≤ N ∧ ∃ F : Nat → Value, (∀ i, i < n → F i = .int .i64 (f i)) ∧ w.rowIs g t N F
theorem RF.cell {w : World} {g : Nat} {t : TypeId} {N n : Nat} {f : Nat → Int} (h : RF w g t N n f) {i : Nat} (hi : i < n) : w.cell? ⟨g, i, none⟩ = some (.int .i64 (f i)) := by
  obtain ⟨hn, F, hF, hr⟩ := h
  rw [hr.cell (by omega), hF i hi]
theorem RF.frozen {w : World} {g : Nat} {t : TypeId} {N n : Nat} {f : Nat → Int} (h : RF w g t N n f) (i : Nat) : w.frozen? ⟨g, i, none⟩ = false := by
  obtain ⟨_, F, _, hr⟩ := h
  exact hr.frozen i
theorem RF.lt {w : World} {g : Nat} {t : TypeId} {N n : Nat} {f : Nat → Int} (h : RF w g t N n f) : g < w.heap.size := by
  obtain ⟨_, F, _, hr⟩ := h
  exact hr.lt
theorem RF.congr {w : World} {g : Nat} {t : TypeId} {N n : Nat} {f f' : Nat → Int} (h : RF w g t N n f) (he : ∀ i, i < n → f i = f' i) : RF w g t N n f' := by
  obtain ⟨hn, F, hF, hr⟩ := h
  exact ⟨hn, F, fun i hi => by rw [hF i hi, he i hi], hr⟩
theorem RF.set {w : World} {g : Nat} {t : TypeId} {N n : Nat} {f : Nat → Int} (h : RF w g t N n f) (i : Nat) (z : Int) : RF (w.setCell ⟨g, i, none⟩ (.int .i64 z)) g t N n (fun j => if j = i then z else f j) := by
  obtain ⟨hn, F, hF, hr⟩ := h
  refine ⟨hn, _, fun j hj => ?_, hr.set i (.int .i64 z)⟩
  by_cases e : j = i
  · simp [e]
  · simp [e, hF j hj]
theorem RF.of_block {w w' : World} {g : Nat} {t : TypeId} {N n : Nat} {f : Nat → Int} (h : RF w g t N n f) (e : w'.heap[g]? = w.heap[g]?) : RF w' g t N n f := by
  obtain ⟨hn, F, hF, hr⟩ := h
  exact ⟨hn, F, hF, hr.of_block e⟩
theorem RF.drew {w : World} {g : Nat} {t : TypeId} {N n : Nat} {f : Nat → Int} (h : RF w g t N n f) : RF w.drew g t N n f := h.of_block rfl
theorem RF.less {w : World} {g : Nat} {t : TypeId} {N n m : Nat} {f : Nat → Int} (h : RF w g t N n f) (hm : m ≤ n) : RF w g t N m f := by
  obtain ⟨hn, F, hF, hr⟩ := h
  exact ⟨by omega, F, fun i hi => hF i (by omega), hr⟩

/-- What toSteps does from place k on. -/
def difF (f : Nat → Int) (off n k : Nat) (j : Nat) : Int := if off + k < j ∧ j < off + n then RowKit.wrap64 (f j - f (j - 1)) else f j
theorem dif_step {f : Nat → Int} {off n k : Nat} (hk : k + 1 < n) (j : Nat) : (if j = off + (k + 1) then RowKit.wrap64 (f (off + (k + 1)) - f (off + k)) else difF f off n (k + 1) j) = difF f off n k j := by
  unfold difF
  by_cases e : j = off + (k + 1)
  · subst e
    rw [if_pos rfl, if_pos ⟨by omega, by omega⟩, show off + (k + 1) - 1 = off + k by omega]
  · rw [if_neg e]
    by_cases h : off + k < j ∧ j < off + n
    · rw [if_pos h, if_pos ⟨by omega, h.2⟩]
    · rw [if_neg h, if_neg (fun h' => h ⟨by omega, h'.2⟩)]

def SetB (B : Nat) (w w' : World) : Prop := Below B w w' ∧ w'.heap.size = w.heap.size
theorem SetB.refl (B : Nat) (w : World) : SetB B w w := ⟨Below.refl _ _, rfl⟩
theorem SetB.step {B g i : Nat} {w w' : World} (h : SetB B w w') (hg : B ≤ g) (v : Value) : SetB B w (w'.drew.setCell ⟨g, i, none⟩ v) :=
  ⟨(h.1.drew).setCell (p := ⟨g, i, none⟩) hg v, by simpa using h.2⟩

theorem steps_small (ao : Option Addr) (n c : Nat) (hn : n ≤ 1) (w : World) : Calls Try.prog 122 #[.slice ao n c] w fun e w' => (∃ v, e = .returned v) ∧ w' = w := by
  by_cases h0 : n = 0
  · subst h0
    go_enter Try.func122, Try.ntmps122
    go_wp2
    go_loop [2] (fun i => i = .int .i64 (-1)) (fun _ => 0)
    case atStart => rfl
    case round =>
      obtain rfl := hrel
      go_wp2
      go_end0
      exact ⟨⟨_, rfl⟩, rfl⟩
  · obtain rfl : n = 1 := by omega
    go_enter Try.func122, Try.ntmps122
    go_wp2
    go_loop [2] (fun i => i = .int .i64 0) (fun _ => 0)
    case atStart => rfl
    case round =>
      obtain rfl := hrel
      go_wp2
      go_end0
      exact ⟨⟨_, rfl⟩, rfl⟩

set_option maxHeartbeats 2000000 in
set_option maxRecDepth 100000 in
theorem steps48 (g off n c N M B : Nat) (t : TypeId) (f : Nat → Int) (hn : 2 ≤ n) (hn2 : n ≤ 60) (hoff : off + n ≤ M) (hB : B ≤ g) (w : World) (h : RF w g t N M f) :
    Calls Try.prog 122 #[.slice (some ⟨g, off, none⟩) n c] w fun e w' => (∃ v, e = .returned v) ∧ RF w' g t N M (difF f off n 0) ∧ SetB B w w' := by
  have H := Lib.hid h
  clear h
  go_enter Try.func122, Try.ntmps122
  go_wp2
  go_loopw [2] (fun i wr => ∃ k : Nat, k + 1 ≤ n ∧ i = .int .i64 k ∧ Hid (RF wr g t N M (difF f off n k)) ∧ Hid (SetB B w wr)) (fun i _ => (intOf i).toNat)
  case atStart => exact ⟨n - 1, by omega, by go_num, Lib.hid (H.out.congr fun i hi => by unfold difF; rw [if_neg (by omega)]), Lib.hid (SetB.refl _ _)⟩
  case round =>
    obtain ⟨k, hk, rfl, hR, hS⟩ := hrel
    cases k with
    | zero =>
      go_wp2
      go_end0
      exact ⟨⟨_, rfl⟩, hR.out, hS.out⟩
    | succ k =>
      have c1 := hR.out.cell (i := off + (k + 1)) (by omega)
      have c0 := hR.out.cell (i := off + k) (by omega)
      have e1 : difF f off n (k + 1) (off + (k + 1)) = f (off + (k + 1)) := by unfold difF; rw [if_neg (by omega)]
      have e0 : difF f off n (k + 1) (off + k) = f (off + k) := by unfold difF; rw [if_neg (by omega)]
      rw [e1] at c1
      rw [e0] at c0
      have f1 := hR.out.frozen (off + (k + 1))
      have HR := Lib.hid ((hR.out.drew.set (off + (k + 1)) (RowKit.wrap64 (f (off + (k + 1)) - f (off + k)))).congr (fun j _ => dif_step (by omega) j))
      have HS := Lib.hid (hS.out.step (i := off + (k + 1)) hB (.int .i64 (RowKit.wrap64 (f (off + (k + 1)) - f (off + k)))))
      have hne : (off + (k + 1) == off + k) = false := by simp
      clear e0 e1
      generalize f (off + (k + 1)) = x1 at c1 HR HS
      generalize f (off + k) = x0 at c0 HR HS
      go_wp2
      go_region
      all_goals
        go_wp2
        go_roundw
        case rel => exact ⟨k, by omega, by go_num, HR, HS⟩
        case measure => simp [intOf]
end Go.Proofs.Yteiefngamccapaa
