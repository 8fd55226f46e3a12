/- Further contracts over rows of numbers: sums made again, a list behind its first, copies, whether two lists are the same, marks; over this seat's translation. -/
import Derived.Test.YtckdfckkkbkooaaRo
namespace Go.Proofs.Ytckdfckkkbkooaa
open Go.RowKit Go.Deep

/-- What fromSteps has done ahead of place k. -/
def accF (f : Nat → Int) (off : Nat) : Nat → Int
  | 0 => f off
  | i + 1 => RowKit.wrap64 (f (off + (i + 1)) + accF f off i)
def sumF (f : Nat → Int) (off k : Nat) (j : Nat) : Int := if off ≤ j ∧ j < off + k then accF f off (j - off) else f j
theorem accF_succ (f : Nat → Int) (off i : Nat) : accF f off (i + 1) = RowKit.wrap64 (f (off + (i + 1)) + accF f off i) := by rw [accF]
theorem sum_step {f : Nat → Int} {off k : Nat} (j : Nat) : (if j = off + (k + 1) then RowKit.wrap64 (f (off + (k + 1)) + accF f off k) else sumF f off (k + 1) j) = sumF f off (k + 2) j := by
  unfold sumF
  by_cases e : j = off + (k + 1)
  · subst e
    rw [if_pos rfl, if_pos ⟨by omega, by omega⟩, show off + (k + 1) - off = k + 1 by omega, accF_succ]
  · rw [if_neg e]
    by_cases h : off ≤ j ∧ j < off + (k + 1)
    · rw [if_pos h, if_pos ⟨by omega, by omega⟩]
    · rw [if_neg h, if_neg (fun h' => h ⟨by omega, by omega⟩)]

theorem from_small (ao : Option Addr) (n c : Nat) (hn : n ≤ 1) (w : World) : Calls Try.prog 100 #[.slice ao n c] w fun e w' => (∃ v, e = .returned v) ∧ w' = w := by
  go_enter Try.func100, Try.ntmps100
  go_wp2
  go_loop [2] (fun i => i = .int .i64 1) (fun _ => 0)
  case atStart => rfl
  case round =>
    obtain rfl := hrel
    go_wp2
    go_end0
    exact ⟨⟨_, rfl⟩, rfl⟩

set_option maxHeartbeats 2000000 in
set_option maxRecDepth 100000 in
theorem from54 (g off n c N M B : Nat) (t : TypeId) (f : Nat → Int) (hn : 2 ≤ n) (hn2 : n ≤ 60) (hoff : off + n ≤ M) (hB : B ≤ g) (w : World) (h : RF w g t N M f) :
    Calls Try.prog 100 #[.slice (some ⟨g, off, none⟩) n c] w fun e w' => (∃ v, e = .returned v) ∧ RF w' g t N M (sumF f off n) ∧ SetB B w w' := by
  have H := Lib.hid h
  clear h
  go_enter Try.func100, Try.ntmps100
  go_wp2
  go_loopw [2] (fun i wr => ∃ k : Nat, k + 1 ≤ n ∧ i = .int .i64 (k + 1 : Nat) ∧ Hid (RF wr g t N M (sumF f off (k + 1))) ∧ Hid (SetB B w wr)) (fun i _ => n - (intOf i).toNat)
  case atStart => exact ⟨0, by omega, rfl, Lib.hid (H.out.congr fun i hi => by
      unfold sumF
      by_cases e : off ≤ i ∧ i < off + (0 + 1)
      · rw [if_pos e]
        obtain rfl : i = off := by omega
        rw [Nat.sub_self, accF]
      · rw [if_neg e]), Lib.hid (SetB.refl _ _)⟩
  case round =>
    obtain ⟨k, hk, rfl, hR, hS⟩ := hrel
    by_cases hlt : k + 1 < n
    · have c1 := hR.out.cell (i := off + (k + 1)) (by omega)
      have c0 := hR.out.cell (i := off + k) (by omega)
      have e1 : sumF f off (k + 1) (off + (k + 1)) = f (off + (k + 1)) := by unfold sumF; rw [if_neg (by omega)]
      have e0 : sumF f off (k + 1) (off + k) = accF f off k := by unfold sumF; rw [if_pos ⟨by omega, by omega⟩, show off + k - off = k by omega]
      rw [e1] at c1
      rw [e0] at c0
      have f1 := hR.out.frozen (off + (k + 1))
      have HR := Lib.hid ((hR.out.drew.set (off + (k + 1)) (RowKit.wrap64 (f (off + (k + 1)) + accF f off k))).congr (fun j _ => sum_step j))
      have HS := Lib.hid (hS.out.step (i := off + (k + 1)) hB (.int .i64 (RowKit.wrap64 (f (off + (k + 1)) + accF f off k))))
      clear e0 e1
      generalize f (off + (k + 1)) = x1 at c1 HR HS
      generalize accF f off k = x0 at c0 HR HS
      go_wp2
      go_region
      all_goals
        go_wp2
        go_roundw
        case rel => exact ⟨k + 1, by omega, by go_num, HR, HS⟩
        case measure => simp [intOf]; omega
    · obtain rfl : n = k + 1 := by omega
      go_wp2
      go_end0
      exact ⟨⟨_, rfl⟩, hR.out, hS.out⟩

theorem behind49 (g n c : Nat) (hn : 2 ≤ n) (hc : n ≤ c) (w : World) : Calls Try.prog 64 #[.slice (some ⟨g, 0, none⟩) n c] w fun e w' => e = .returned (.slice (some ⟨g, 1, none⟩) (n - 1) (c - 1)) ∧ w' = w := by
  go_enter Try.func64, Try.ntmps64
  go_wp2
  go_ret
  exact ⟨rfl, rfl⟩
theorem behind_small (ao : Option Addr) (n c : Nat) (hn : n ≤ 1) (hc : n ≤ c) (ha : 0 < n → ∃ a, ao = some a) (w : World) : Calls Try.prog 64 #[.slice ao n c] w fun e w' => (∃ bo d, e = .returned (.slice bo 0 d)) ∧ w' = w := by
  by_cases h0 : n = 0
  · subst h0
    cases ao with
    | none =>
      go_enter Try.func64, Try.ntmps64
      go_wp2
      go_ret
      exact ⟨⟨_, _, rfl⟩, rfl⟩
    | some a =>
      go_enter Try.func64, Try.ntmps64
      go_wp2
      go_ret
      exact ⟨⟨_, _, rfl⟩, rfl⟩
  · obtain rfl : n = 1 := by omega
    obtain ⟨a, rfl⟩ := ha (by omega)
    go_enter Try.func64, Try.ntmps64
    go_wp2
    all_goals
      go_ret
      exact ⟨⟨_, _, rfl⟩, rfl⟩

theorem below_drewN2 {B : Nat} {w w' : World} (h : Below B w w') (q : Nat) : Below B w (w'.drewN q) := by
  induction q with
  | zero => exact h
  | succ q ih => exact ih.drew
theorem RF.below {w w' : World} {g : Nat} {t : TypeId} {N n : Nat} {f : Nat → Int} (h : RF w g t N n f) (hb : Below w.heap.size w w') : RF w' g t N n f := h.of_block (hb.block g h.lt)
theorem RF.irow {w : World} {g : Nat} {t : TypeId} {N : Nat} {xs : List Int} (h : RF w g t N xs.length (at0 xs)) (hx : ∀ x ∈ xs, In64 x) : IRow w w.heap.size (some ⟨g, 0, none⟩) xs :=
  ⟨hx, fun _ => ⟨g, 0, rfl, h.lt, fun i hi => by rw [Nat.zero_add, h.cell hi, at0_get hi]⟩⟩

theorem made_row (w : World) (n : Nat) : RF (w.alloc (.cells (madeCells #[.int .i64 0] n) 3)) w.heap.size 3 n n (fun _ => 0) :=
  ⟨Nat.le_refl _, _, fun _ _ => rfl, World.rowIs_made w (.int .i64 0) n 3⟩

set_option maxHeartbeats 2000000 in
set_option maxRecDepth 100000 in
theorem eq34 (ao bo : Option Addr) (c d : Nat) (xs : List Int) (hn : xs.length ≤ 1048576) (w : World) (ha : IRow w w.heap.size ao xs) (hb : IRow w w.heap.size bo xs) :
    Calls Try.prog 47 #[.slice ao xs.length c, .slice bo xs.length d] w fun e w' => e = .returned (.bool true) ∧ Below w.heap.size w w' := by
  have HA := Lib.hid ha
  have HB := Lib.hid hb
  clear ha hb
  go_enter Try.func47, Try.ntmps47
  go_wp2
  go_loopw [5] (fun i wr => ∃ k : Nat, k ≤ xs.length ∧ i = .int .i64 k ∧ Hid (Below w.heap.size w wr)) (fun i _ => xs.length - (intOf i).toNat)
  case atStart => exact ⟨0, Nat.zero_le _, rfl, Lib.hid (Below.refl _ _)⟩
  case round =>
    obtain ⟨k, hk, rfl, hB⟩ := hrel
    by_cases hlt : k < xs.length
    · obtain ⟨b, off, hao, hbl, hc⟩ := HA.out.2 (by omega)
      obtain ⟨b', off', hao', hbl', hc'⟩ := HB.out.2 (by omega)
      subst hao hao'
      have c1 := (hB.out.cell (p := ⟨b, off + k, none⟩) hbl).trans (hc k hlt)
      have c2 := (hB.out.cell (p := ⟨b', off' + k, none⟩) hbl').trans (hc' k hlt)
      clear hc hc'
      generalize xs[k] = x at c1 c2
      go_wp2
      go_quiet (fail)
      have HD := Lib.hid (below_drewN2 hB.out nq)
      go_wp2
      go_roundw
      case rel => exact ⟨k + 1, by omega, by go_num, HD⟩
      case measure => simp [intOf]; omega
    · go_wp2
      go_ret
      exact ⟨rfl, hB.out⟩

theorem mark0 (ao : Option Addr) (c : Nat) (k : Int) (w : World) : Calls Try.prog 48 #[.slice ao 0 c, .int .i64 k] w fun e w' => e = .returned (.int .i64 k) ∧ w' = w := by
  go_enter Try.func48, Try.ntmps48
  go_wp2
  go_loop [1, 5] (fun q i => q = .int .i64 k ∧ i = .int .i64 0) (fun _ _ => 0)
  case atStart => exact ⟨rfl, rfl⟩
  case round =>
    obtain ⟨rfl, rfl⟩ := hrel
    go_wp2
    go_ret
    exact ⟨rfl, rfl⟩

set_option maxHeartbeats 2000000 in
set_option maxRecDepth 100000 in
theorem mark35 (g n c N B k : Nat) (t : TypeId) (f : Nat → Int) (hn : n ≤ 1048576) (hk : k ≤ 1048576) (hB : B ≤ g) (w : World) (h : RF w g t N n f) :
    Calls Try.prog 48 #[.slice (some ⟨g, 0, none⟩) n c, .int .i64 k] w fun e w' => e = .returned (.int .i64 ((k + n : Nat) : Int)) ∧ RF w' g t N n (fun i => ((k + i : Nat) : Int)) ∧ Below B w w' := by
  have H := Lib.hid h
  clear h
  go_enter Try.func48, Try.ntmps48
  go_wp2
  go_loopw [1, 5] (fun q i wr => ∃ j : Nat, j ≤ n ∧ i = .int .i64 j ∧ q = .int .i64 ((k + j : Nat) : Int) ∧ Hid (RF wr g t N n (fun i => if i < j then ((k + i : Nat) : Int) else f i)) ∧ Hid (Below B w wr)) (fun _ i _ => n - (intOf i).toNat)
  case atStart => exact ⟨0, Nat.zero_le _, rfl, rfl, Lib.hid (H.out.congr fun i hi => by simp), Lib.hid (Below.refl _ _)⟩
  case round =>
    obtain ⟨j, hj, rfl, rfl, hR, hBl⟩ := hrel
    by_cases hlt : j < n
    · have hto := hR.out.cell hlt
      have hfz := hR.out.frozen j
      have HR := Lib.hid ((hR.out.set j ((k + j : Nat) : Int)).congr (f' := fun i => if i < j + 1 then ((k + i : Nat) : Int) else f i) (fun i _ => by
        by_cases e : i = j
        · subst e; simp
        · by_cases h1 : i < j
          · simp [e, h1, show i < j + 1 by omega]
          · simp [e, h1, show ¬ i < j + 1 by omega]))
      have HB := Lib.hid (hBl.out.setCell (p := ⟨g, j, none⟩) hB (.int .i64 ((k + j : Nat) : Int)))
      have hq : k + j ≤ 4194304 := by omega
      obtain ⟨q, hq'⟩ : ∃ q, q = k + j := ⟨_, rfl⟩
      rw [← hq'] at HR HB hq ⊢
      have HQ := Lib.hid hq'
      clear hq'
      go_wp2
      go_roundw
      case rel => exact ⟨j + 1, by omega, by go_num, by have := HQ.out; go_num, HR, HB⟩
      case measure => simp [intOf]; omega
    · obtain rfl : j = n := by omega
      go_wp2
      go_ret
      exact ⟨rfl, hR.out.congr fun i hi => by rw [if_pos hi], hBl.out⟩

set_option maxHeartbeats 2000000 in
set_option maxRecDepth 100000 in
theorem held36 (ao : Option Addr) (n c k : Nat) (hn : n ≤ 1048576) (hk : k ≤ 1048576) (w : World) (h : 0 < n → ∃ g off, ao = some ⟨g, off, none⟩ ∧ ∀ i, i < n → w.cell? ⟨g, off + i, none⟩ = some (.int .i64 ((k + i : Nat) : Int))) :
    Calls Try.prog 49 #[.slice ao n c, .int .i64 k] w fun e w' => e = .returned (.int .i64 ((k + n : Nat) : Int)) ∧ w' = w := by
  have H := Lib.hid h
  clear h
  go_enter Try.func49, Try.ntmps49
  go_wp2
  go_loopw [1, 5] (fun q i wr => ∃ j : Nat, j ≤ n ∧ i = .int .i64 j ∧ q = .int .i64 ((k + j : Nat) : Int) ∧ wr = w) (fun _ i _ => n - (intOf i).toNat)
  case atStart => exact ⟨0, Nat.zero_le _, rfl, rfl, rfl⟩
  case round =>
    obtain ⟨j, hj, rfl, rfl, rfl⟩ := hrel
    by_cases hlt : j < n
    · obtain ⟨g, off, rfl, hc⟩ := H.out (by omega)
      have c0 := hc j hlt
      have hq : k + j ≤ 4194304 := by omega
      clear hc
      obtain ⟨q, hq'⟩ : ∃ q, q = k + j := ⟨_, rfl⟩
      rw [← hq'] at c0 hq ⊢
      go_wp2
      go_roundw
      case rel => exact ⟨j + 1, by omega, by go_num, by go_num, trivial⟩
      case measure => simp [intOf]; omega
    · obtain rfl : j = n := by omega
      go_wp2
      go_ret
      exact ⟨rfl, rfl⟩
end Go.Proofs.Ytckdfckkkbkooaa
