/- Further contracts over rows of numbers: sums made again, a list behind its first, copies, whether two lists are the same, marks; over this seat's translation. -/
import Derived.Test.YteiefngamccapaaRo
namespace Go.Proofs.Yteiefngamccapaa
open Go.RowKit Go.Deep

/-- What fromSteps has done ahead of place k. -/
def accF (f : Nat → Int) (off : Nat) : Nat → Int
  | 0 => f off
  | i + 1 => RowKit.wrap64 (f (off + (i + 1)) + accF f off i)
def sumF (f : Nat → Int) (off k : Nat) (j : Nat) : Int := if off ≤ j ∧ j < off + k then accF f off (j - off) else f j
theorem accF_succ (f : Nat → Int) (off i : Nat) : accF f off (i + 1) = RowKit.wrap64 (f (off + (i + 1)) + accF f off i) := by rw [accF]
theorem sum_step {f : Nat → Int} {off k : Nat} (j : Nat) : (if j = off + (k + 1) then RowKit.wrap64 (f (off + (k + 1)) + accF f off k) else sumF f off (k + 1) j) = sumF f off (k + 2) j := by
  unfold sumF
  by_cases e : j = off + (k + 1)
  · subst e
    rw [if_pos rfl, if_pos ⟨by omega, by omega⟩, show off + (k + 1) - off = k + 1 by omega, accF_succ]
  · rw [if_neg e]
    by_cases h : off ≤ j ∧ j < off + (k + 1)
    · rw [if_pos h, if_pos ⟨by omega, by omega⟩]
    · rw [if_neg h, if_neg (fun h' => h ⟨by omega, by omega⟩)]

theorem from_small (ao : Option Addr) (n c : Nat) (hn : n ≤ 1) (w : World) : Calls Try.prog 129 #[.slice ao n c] w fun e w' => (∃ v, e = .returned v) ∧ w' = w := by
  go_enter Try.func129, Try.ntmps129
  go_wp2
  go_loop [2] (fun i => i = .int .i64 1) (fun _ => 0)
  case atStart => rfl
  case round =>
    obtain rfl := hrel
    go_wp2
    go_end0
    exact ⟨⟨_, rfl⟩, rfl⟩

set_option maxHeartbeats 2000000 in
set_option maxRecDepth 100000 in
theorem from54 (g off n c N M B : Nat) (t : TypeId) (f : Nat → Int) (hn : 2 ≤ n) (hn2 : n ≤ 60) (hoff : off + n ≤ M) (hB : B ≤ g) (w : World) (h : RF w g t N M f) :
    Calls Try.prog 129 #[.slice (some ⟨g, off, none⟩) n c] w fun e w' => (∃ v, e = .returned v) ∧ RF w' g t N M (sumF f off n) ∧ SetB B w w' := by
  have H := Lib.hid h
  clear h
  go_enter Try.func129, Try.ntmps129
  go_wp2
  go_loopw [2] (fun i wr => ∃ k : Nat, k + 1 ≤ n ∧ i = .int .i64 (k + 1 : Nat) ∧ Hid (RF wr g t N M (sumF f off (k + 1))) ∧ Hid (SetB B w wr)) (fun i _ => n - (intOf i).toNat)
  case atStart => exact ⟨0, by omega, rfl, Lib.hid (H.out.congr fun i hi => by
      unfold sumF
      by_cases e : off ≤ i ∧ i < off + (0 + 1)
      · rw [if_pos e]
        obtain rfl : i = off := by omega
        rw [Nat.sub_self, accF]
      · rw [if_neg e]), Lib.hid (SetB.refl _ _)⟩
  case round =>
    obtain ⟨k, hk, rfl, hR, hS⟩ := hrel
    by_cases hlt : k + 1 < n
    · have c1 := hR.out.cell (i := off + (k + 1)) (by omega)
      have c0 := hR.out.cell (i := off + k) (by omega)
      have e1 : sumF f off (k + 1) (off + (k + 1)) = f (off + (k + 1)) := by unfold sumF; rw [if_neg (by omega)]
      have e0 : sumF f off (k + 1) (off + k) = accF f off k := by unfold sumF; rw [if_pos ⟨by omega, by omega⟩, show off + k - off = k by omega]
      rw [e1] at c1
      rw [e0] at c0
      have f1 := hR.out.frozen (off + (k + 1))
      have HR := Lib.hid ((hR.out.drew.set (off + (k + 1)) (RowKit.wrap64 (f (off + (k + 1)) + accF f off k))).congr (fun j _ => sum_step j))
      have HS := Lib.hid (hS.out.step (i := off + (k + 1)) hB (.int .i64 (RowKit.wrap64 (f (off + (k + 1)) + accF f off k))))
      clear e0 e1
      generalize f (off + (k + 1)) = x1 at c1 HR HS
      generalize accF f off k = x0 at c0 HR HS
      go_wp2
      go_region
      all_goals
        go_wp2
        go_roundw
        case rel => exact ⟨k + 1, by omega, by go_num, HR, HS⟩
        case measure => simp [intOf]; omega
    · obtain rfl : n = k + 1 := by omega
      go_wp2
      go_end0
      exact ⟨⟨_, rfl⟩, hR.out, hS.out⟩

theorem behind49 (g n c : Nat) (hn : 2 ≤ n) (hc : n ≤ c) (w : World) : Calls Try.prog 123 #[.slice (some ⟨g, 0, none⟩) n c] w fun e w' => e = .returned (.slice (some ⟨g, 1, none⟩) (n - 1) (c - 1)) ∧ w' = w := by
  go_enter Try.func123, Try.ntmps123
  go_wp2
  go_ret
  exact ⟨rfl, rfl⟩
theorem behind_small (ao : Option Addr) (n c : Nat) (hn : n ≤ 1) (hc : n ≤ c) (ha : 0 < n → ∃ a, ao = some a) (w : World) : Calls Try.prog 123 #[.slice ao n c] w fun e w' => (∃ bo d, e = .returned (.slice bo 0 d)) ∧ w' = w := by
  by_cases h0 : n = 0
  · subst h0
    cases ao with
    | none =>
      go_enter Try.func123, Try.ntmps123
      go_wp2
      go_ret
      exact ⟨⟨_, _, rfl⟩, rfl⟩
    | some a =>
      go_enter Try.func123, Try.ntmps123
      go_wp2
      go_ret
      exact ⟨⟨_, _, rfl⟩, rfl⟩
  · obtain rfl : n = 1 := by omega
    obtain ⟨a, rfl⟩ := ha (by omega)
    go_enter Try.func123, Try.ntmps123
    go_wp2
    all_goals
      go_ret
      exact ⟨⟨_, _, rfl⟩, rfl⟩

theorem below_drewN2 {B : Nat} {w w' : World} (h : Below B w w') (q : Nat) : Below B w (w'.drewN q) := by
  induction q with
  | zero => exact h
  | succ q ih => exact ih.drew
theorem RF.below {w w' : World} {g : Nat} {t : TypeId} {N n : Nat} {f : Nat → Int} (h : RF w g t N n f) (hb : Below w.heap.size w w') : RF w' g t N n f := h.of_block (hb.block g h.lt)
theorem RF.irow {w : World} {g : Nat} {t : TypeId} {N : Nat} {xs : List Int} (h : RF w g t N xs.length (at0 xs)) (hx : ∀ x ∈ xs, In64 x) : IRow w w.heap.size (some ⟨g, 0, none⟩) xs :=
  ⟨hx, fun _ => ⟨g, 0, rfl, h.lt, fun i hi => by rw [Nat.zero_add, h.cell hi, at0_get hi]⟩⟩

theorem made_row (w : World) (n : Nat) : RF (w.alloc (.cells (madeCells #[.int .i64 0] n) 3)) w.heap.size 3 n n (fun _ => 0) :=
  ⟨Nat.le_refl _, _, fun _ _ => rfl, World.rowIs_made w (.int .i64 0) n 3⟩

end Go.Proofs.Yteiefngamccapaa
