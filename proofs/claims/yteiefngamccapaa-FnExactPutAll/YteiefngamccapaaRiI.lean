/- Contracts of what the laws do with rows of numbers: copies, whether two are the same, marks; over this seat's translation. -/
import Derived.Test.YteiefngamccapaaRiaI
namespace Go.Proofs.Yteiefngamccapaa.I
open Go.RowKit Go.Deep Go.ChangeShapes Go.WideShapes Go.ChangeAt

set_option maxHeartbeats 2000000 in
set_option maxRecDepth 100000 in
theorem eqInts (ao bo : Option Addr) (c d : Nat) (xs : List Int) (hn : xs.length ≤ 1048576) (w : World) (ha : IRow w w.heap.size ao xs) (hb : IRow w w.heap.size bo xs) :
    Calls Try.prog 28 #[.slice ao xs.length c, .slice bo xs.length d] w fun e w' => e = .returned (.bool true) ∧ Below w.heap.size w w' := by
  have HA := Lib.hid ha
  have HB := Lib.hid hb
  clear ha hb
  go_enter Try.func28, Try.ntmps28
  go_wp2
  go_loopw [5] (fun i wr => ∃ k : Nat, k ≤ xs.length ∧ i = .int .i64 k ∧ Hid (Below w.heap.size w wr)) (fun i _ => xs.length - (intOf i).toNat)
  case atStart => exact ⟨0, Nat.zero_le _, rfl, Lib.hid (Below.refl _ _)⟩
  case round =>
    obtain ⟨k, hk, rfl, hB⟩ := hrel
    by_cases hlt : k < xs.length
    · obtain ⟨b, off, hao, hbl, hc⟩ := HA.out.2 (by omega)
      obtain ⟨b', off', hao', hbl', hc'⟩ := HB.out.2 (by omega)
      subst hao hao'
      have c1 := (hB.out.cell (p := ⟨b, off + k, none⟩) hbl).trans (hc k hlt)
      have c2 := (hB.out.cell (p := ⟨b', off' + k, none⟩) hbl').trans (hc' k hlt)
      clear hc hc'
      generalize xs[k] = x at c1 c2
      go_wp2
      go_quiet (fail)
      have HD := Lib.hid (below_drewN2 hB.out nq)
      go_wp2
      go_roundw
      case rel => exact ⟨k + 1, by omega, by go_num, HD⟩
      case measure => simp [intOf]; omega
    · go_wp2
      go_ret
      exact ⟨rfl, hB.out⟩

theorem markI0 (ao : Option Addr) (c : Nat) (k : Int) (w : World) : Calls Try.prog 31 #[.slice ao 0 c, .int .i64 k] w fun e w' => e = .returned (.int .i64 k) ∧ w = w' := by
  go_enter Try.func31, Try.ntmps31
  go_wp2
  go_loop [1, 5] (fun q i => q = .int .i64 k ∧ i = .int .i64 0) (fun _ _ => 0)
  case atStart => exact ⟨rfl, rfl⟩
  case round =>
    obtain ⟨rfl, rfl⟩ := hrel
    go_wp2
    go_ret
    exact ⟨rfl, rfl⟩

set_option maxHeartbeats 2000000 in
set_option maxRecDepth 100000 in
theorem markI (g n c N B k : Nat) (t : TypeId) (f : Nat → Int) (hn : n ≤ 1048576) (hk : k ≤ 2097152) (hB : B ≤ g) (w : World) (h : RF w g t N n f) :
    Calls Try.prog 31 #[.slice (some ⟨g, 0, none⟩) n c, .int .i64 k] w fun e w' => e = .returned (.int .i64 ((k + n : Nat) : Int)) ∧ RF w' g t N n (fun i => ((k + i : Nat) : Int)) ∧ w.grownBy w' (some g) ∧ Below B w w' := by
  have H := Lib.hid h
  clear h
  go_enter Try.func31, Try.ntmps31
  go_wp2
  go_loopw [1, 5] (fun q i wr => ∃ j : Nat, j ≤ n ∧ i = .int .i64 j ∧ q = .int .i64 ((k + j : Nat) : Int) ∧ Hid (RF wr g t N n (fun i => if i < j then ((k + i : Nat) : Int) else f i)) ∧ Hid (w.grownBy wr (some g)) ∧ Hid (Below B w wr)) (fun _ i _ => n - (intOf i).toNat)
  case atStart => exact ⟨0, Nat.zero_le _, rfl, rfl, Lib.hid (H.out.congr fun i hi => by simp), Lib.hid (World.grownBy.refl _ _), Lib.hid (Below.refl _ _)⟩
  case round =>
    obtain ⟨j, hj, rfl, rfl, hR, hG, hBl⟩ := hrel
    by_cases hlt : j < n
    · have hto := hR.out.cell hlt
      have hfz := hR.out.frozen j
      have HR := Lib.hid ((hR.out.set j ((k + j : Nat) : Int)).congr (f' := fun i => if i < j + 1 then ((k + i : Nat) : Int) else f i) (fun i _ => by
        by_cases e : i = j
        · subst e; simp
        · by_cases h1 : i < j
          · simp [e, h1, show i < j + 1 by omega]
          · simp [e, h1, show ¬ i < j + 1 by omega]))
      have HG := Lib.hid (hG.out.trans (gb_set _ g j (.int .i64 ((k + j : Nat) : Int))))
      have HB := Lib.hid (hBl.out.setCell (p := ⟨g, j, none⟩) hB (.int .i64 ((k + j : Nat) : Int)))
      have hq : k + j ≤ 4194304 := by omega
      obtain ⟨q, hq'⟩ : ∃ q, q = k + j := ⟨_, rfl⟩
      rw [← hq'] at HR HG HB hq ⊢
      have HQ := Lib.hid hq'
      clear hq' hR hG hBl
      go_wp2
      go_roundw
      case rel => exact ⟨j + 1, by omega, by go_num, by have := HQ.out; go_num, HR, HG, HB⟩
      case measure => simp [intOf]; omega
    · obtain rfl : j = n := by omega
      go_wp2
      go_ret
      exact ⟨rfl, hR.out.congr fun i hi => by rw [if_pos hi], hG.out, hBl.out⟩

set_option maxHeartbeats 2000000 in
set_option maxRecDepth 100000 in
theorem heldI (ao : Option Addr) (n c k : Nat) (hn : n ≤ 1048576) (hk : k ≤ 2097152) (w : World) (h : 0 < n → ∃ g off, ao = some ⟨g, off, none⟩ ∧ ∀ i, i < n → w.cell? ⟨g, off + i, none⟩ = some (.int .i64 ((k + i : Nat) : Int))) :
    Calls Try.prog 32 #[.slice ao n c, .int .i64 k] w fun e w' => e = .returned (.int .i64 ((k + n : Nat) : Int)) ∧ w' = w := by
  have H := Lib.hid h
  clear h
  go_enter Try.func32, Try.ntmps32
  go_wp2
  go_loopw [1, 5] (fun q i wr => ∃ j : Nat, j ≤ n ∧ i = .int .i64 j ∧ q = .int .i64 ((k + j : Nat) : Int) ∧ wr = w) (fun _ i _ => n - (intOf i).toNat)
  case atStart => exact ⟨0, Nat.zero_le _, rfl, rfl, rfl⟩
  case round =>
    obtain ⟨j, hj, rfl, rfl, rfl⟩ := hrel
    by_cases hlt : j < n
    · obtain ⟨g, off, rfl, hc⟩ := H.out (by omega)
      have c0 := hc j hlt
      have hq : k + j ≤ 4194304 := by omega
      clear hc
      obtain ⟨q, hq'⟩ : ∃ q, q = k + j := ⟨_, rfl⟩
      rw [← hq'] at c0 hq ⊢
      go_wp2
      go_roundw
      case rel => exact ⟨j + 1, by omega, by go_num, by go_num, trivial⟩
      case measure => simp [intOf]; omega
    · obtain rfl : j = n := by omega
      go_wp2
      go_ret
      exact ⟨rfl, rfl⟩

/-- Marks laid into a list of a block of one's own, whatever its length; marks found there. -/
theorem markAll (bo : Option Addr) (n c B k : Nat) (f : Nat → Int) (hn : n ≤ 1048576) (hk : k ≤ 2097152) (w : World) (h : Row w bo n c f B) :
    Calls Try.prog 31 #[.slice bo n c, .int .i64 k] w fun e w' => e = .returned (.int .i64 ((k + n : Nat) : Int)) ∧ Row w' bo n c (fun i => ((k + i : Nat) : Int)) B ∧ Below B w w' := by
  by_cases h0 : n = 0
  · subst h0
    refine (markI0 bo c k w).mono ?_
    rintro e w' ⟨rfl, rfl⟩
    exact ⟨rfl, ⟨h.1, fun hp => by omega⟩, Below.refl _ _⟩
  · obtain ⟨hc, hr⟩ := h
    obtain ⟨g, t, N, rfl, hB, hR⟩ := hr (by omega)
    refine (markI g n c N B k t f hn hk hB w hR).mono ?_
    rintro e w' ⟨rfl, hR', _, hb⟩
    exact ⟨rfl, ⟨hc, fun _ => ⟨g, t, N, rfl, hB, hR'⟩⟩, hb⟩
theorem heldAll (bo : Option Addr) (n c B k : Nat) (hn : n ≤ 1048576) (hk : k ≤ 2097152) (w : World) (h : Row w bo n c (fun i => ((k + i : Nat) : Int)) B) :
    Calls Try.prog 32 #[.slice bo n c, .int .i64 k] w fun e w' => e = .returned (.int .i64 ((k + n : Nat) : Int)) ∧ w' = w :=
  heldI bo n c k hn hk w fun hp => by
    obtain ⟨g, t, N, rfl, _, hR⟩ := h.2 hp
    exact ⟨g, 0, rfl, fun i hi => by rw [Nat.zero_add]; exact hR.cell hi⟩
/-- Marks laid, and what else is left as it was. -/
theorem markAll2 (bo : Option Addr) (n c B k : Nat) (f : Nat → Int) (hn : n ≤ 1048576) (hk : k ≤ 2097152) (w : World) (h : Row w bo n c f B) :
    Calls Try.prog 31 #[.slice bo n c, .int .i64 k] w fun e w' => e = .returned (.int .i64 ((k + n : Nat) : Int)) ∧ Row w' bo n c (fun i => ((k + i : Nat) : Int)) B ∧ w.grownBy w' (Value.slice bo n c).ownBlock := by
  by_cases h0 : n = 0
  · subst h0
    refine (markI0 bo c k w).mono ?_
    rintro e w' ⟨rfl, rfl⟩
    exact ⟨rfl, ⟨h.1, fun hp => by omega⟩, World.grownBy.refl _ _⟩
  · obtain ⟨hc, hr⟩ := h
    obtain ⟨g, t, N, rfl, hB, hR⟩ := hr (by omega)
    refine (markI g n c N B k t f hn hk hB w hR).mono ?_
    rintro e w' ⟨rfl, hR', hg, _⟩
    exact ⟨rfl, ⟨hc, fun _ => ⟨g, t, N, rfl, hB, hR'⟩⟩, hg⟩
end Go.Proofs.Yteiefngamccapaa.I
