/- Contracts of what the laws do with rows of numbers: copies, whether two are the same, marks; over this seat's translation. -/
import Derived.Test.YtabkjjbhnapgpaaRia
namespace Go.Proofs.Ytabkjjbhnapgpaa
open Go.RowKit Go.Deep Go.ChangeShapes Go.WideShapes Go.ChangeAt

set_option maxHeartbeats 2000000 in
set_option maxRecDepth 100000 in
theorem toInts (ao : Option Addr) (cap : Nat) (xs : List Int) (hn : xs.length ≤ 1048576) (w : World) (h : IRow w w.heap.size ao xs) :
    Calls Try.prog 40 #[.slice ao xs.length cap] w fun e w' => e = .returned (.slice (some ⟨w.heap.size, 0, none⟩) xs.length xs.length) ∧ RF w' w.heap.size 3 xs.length xs.length (at0 xs) ∧ Below w.heap.size w w' := by
  have H := Lib.hid h
  clear h
  have hmk := run_make_row' (P := Try.prog) 22 3 (.int .i64 0) 8 Try.underlying22 Try.info3 rfl .i64 .i64 xs.length (by omega) (by omega)
  go_enter Try.func40, Try.ntmps40
  go_wp2
  clear hmk
  go_loopw [4] (fun i wr => ∃ k : Nat, k ≤ xs.length ∧ i = .int .i64 k ∧ Hid (RF wr w.heap.size 3 xs.length xs.length (fun j => if j < k then at0 xs j else 0)) ∧ Hid (Below w.heap.size w wr)) (fun i _ => xs.length - (intOf i).toNat)
  case atStart => exact ⟨0, Nat.zero_le _, rfl, Lib.hid ((made_row w xs.length).congr fun i hi => by simp), Lib.hid ((Below.refl _ _).alloc (Nat.le_refl _) _)⟩
  case round =>
    obtain ⟨k, hk, rfl, hR, hB⟩ := hrel
    by_cases hlt : k < xs.length
    · obtain ⟨b, off, hao, hb, hc⟩ := H.out.2 (by omega)
      subst hao
      have hck := (hB.out.cell (p := ⟨b, off + k, none⟩) hb).trans (hc k hlt)
      rw [← at0_get hlt] at hck
      have hto := hR.out.cell hlt
      have hfz := hR.out.frozen k
      have HR := Lib.hid ((hR.out.set k (at0 xs k)).congr (f' := fun j => if j < k + 1 then at0 xs j else 0) (fun j _ => by
        by_cases e : j = k
        · subst e; simp
        · by_cases h1 : j < k
          · simp [e, h1, show j < k + 1 by omega]
          · simp [e, h1, show ¬ j < k + 1 by omega]))
      have HB := Lib.hid (hB.out.setCell (p := ⟨w.heap.size, k, none⟩) (Nat.le_refl _) (.int .i64 (at0 xs k)))
      clear hc
      generalize at0 xs k = x at hck HR HB
      go_wp2
      go_roundw
      case rel => exact ⟨k + 1, by omega, by go_num, HR, HB⟩
      case measure => simp [intOf]; omega
    · obtain rfl : k = xs.length := by omega
      go_wp2
      go_ret
      exact ⟨rfl, hR.out.congr fun i hi => by rw [if_pos hi], hB.out⟩

set_option maxHeartbeats 2000000 in
set_option maxRecDepth 100000 in
theorem eqInts (ao bo : Option Addr) (c d : Nat) (xs : List Int) (hn : xs.length ≤ 1048576) (w : World) (ha : IRow w w.heap.size ao xs) (hb : IRow w w.heap.size bo xs) :
    Calls Try.prog 43 #[.slice ao xs.length c, .slice bo xs.length d] w fun e w' => e = .returned (.bool true) ∧ Below w.heap.size w w' := by
  have HA := Lib.hid ha
  have HB := Lib.hid hb
  clear ha hb
  go_enter Try.func43, Try.ntmps43
  go_wp2
  go_loopw [5] (fun i wr => ∃ k : Nat, k ≤ xs.length ∧ i = .int .i64 k ∧ Hid (Below w.heap.size w wr)) (fun i _ => xs.length - (intOf i).toNat)
  case atStart => exact ⟨0, Nat.zero_le _, rfl, Lib.hid (Below.refl _ _)⟩
  case round =>
    obtain ⟨k, hk, rfl, hB⟩ := hrel
    by_cases hlt : k < xs.length
    · obtain ⟨b, off, hao, hbl, hc⟩ := HA.out.2 (by omega)
      obtain ⟨b', off', hao', hbl', hc'⟩ := HB.out.2 (by omega)
      subst hao hao'
      have c1 := (hB.out.cell (p := ⟨b, off + k, none⟩) hbl).trans (hc k hlt)
      have c2 := (hB.out.cell (p := ⟨b', off' + k, none⟩) hbl').trans (hc' k hlt)
      clear hc hc'
      generalize xs[k] = x at c1 c2
      go_wp2
      go_quiet (fail)
      have HD := Lib.hid (below_drewN2 hB.out nq)
      go_wp2
      go_roundw
      case rel => exact ⟨k + 1, by omega, by go_num, HD⟩
      case measure => simp [intOf]; omega
    · go_wp2
      go_ret
      exact ⟨rfl, hB.out⟩

theorem markI0 (ao : Option Addr) (c : Nat) (k : Int) (w : World) : Calls Try.prog 48 #[.slice ao 0 c, .int .i64 k] w fun e w' => e = .returned (.int .i64 k) ∧ w = w' := by
  go_enter Try.func48, Try.ntmps48
  go_wp2
  go_loop [1, 5] (fun q i => q = .int .i64 k ∧ i = .int .i64 0) (fun _ _ => 0)
  case atStart => exact ⟨rfl, rfl⟩
  case round =>
    obtain ⟨rfl, rfl⟩ := hrel
    go_wp2
    go_ret
    exact ⟨rfl, rfl⟩

set_option maxHeartbeats 2000000 in
set_option maxRecDepth 100000 in
theorem markI (g n c N B k : Nat) (t : TypeId) (f : Nat → Int) (hn : n ≤ 1048576) (hk : k ≤ 2097152) (hB : B ≤ g) (w : World) (h : RF w g t N n f) :
    Calls Try.prog 48 #[.slice (some ⟨g, 0, none⟩) n c, .int .i64 k] w fun e w' => e = .returned (.int .i64 ((k + n : Nat) : Int)) ∧ RF w' g t N n (fun i => ((k + i : Nat) : Int)) ∧ w.grownBy w' (some g) ∧ Below B w w' := by
  have H := Lib.hid h
  clear h
  go_enter Try.func48, Try.ntmps48
  go_wp2
  go_loopw [1, 5] (fun q i wr => ∃ j : Nat, j ≤ n ∧ i = .int .i64 j ∧ q = .int .i64 ((k + j : Nat) : Int) ∧ Hid (RF wr g t N n (fun i => if i < j then ((k + i : Nat) : Int) else f i)) ∧ Hid (w.grownBy wr (some g)) ∧ Hid (Below B w wr)) (fun _ i _ => n - (intOf i).toNat)
  case atStart => exact ⟨0, Nat.zero_le _, rfl, rfl, Lib.hid (H.out.congr fun i hi => by simp), Lib.hid (World.grownBy.refl _ _), Lib.hid (Below.refl _ _)⟩
  case round =>
    obtain ⟨j, hj, rfl, rfl, hR, hG, hBl⟩ := hrel
    by_cases hlt : j < n
    · have hto := hR.out.cell hlt
      have hfz := hR.out.frozen j
      have HR := Lib.hid ((hR.out.set j ((k + j : Nat) : Int)).congr (f' := fun i => if i < j + 1 then ((k + i : Nat) : Int) else f i) (fun i _ => by
        by_cases e : i = j
        · subst e; simp
        · by_cases h1 : i < j
          · simp [e, h1, show i < j + 1 by omega]
          · simp [e, h1, show ¬ i < j + 1 by omega]))
      have HG := Lib.hid (hG.out.trans (gb_set _ g j (.int .i64 ((k + j : Nat) : Int))))
      have HB := Lib.hid (hBl.out.setCell (p := ⟨g, j, none⟩) hB (.int .i64 ((k + j : Nat) : Int)))
      have hq : k + j ≤ 4194304 := by omega
      obtain ⟨q, hq'⟩ : ∃ q, q = k + j := ⟨_, rfl⟩
      rw [← hq'] at HR HG HB hq ⊢
      have HQ := Lib.hid hq'
      clear hq' hR hG hBl
      go_wp2
      go_roundw
      case rel => exact ⟨j + 1, by omega, by go_num, by have := HQ.out; go_num, HR, HG, HB⟩
      case measure => simp [intOf]; omega
    · obtain rfl : j = n := by omega
      go_wp2
      go_ret
      exact ⟨rfl, hR.out.congr fun i hi => by rw [if_pos hi], hG.out, hBl.out⟩

set_option maxHeartbeats 2000000 in
set_option maxRecDepth 100000 in
theorem heldI (ao : Option Addr) (n c k : Nat) (hn : n ≤ 1048576) (hk : k ≤ 2097152) (w : World) (h : 0 < n → ∃ g off, ao = some ⟨g, off, none⟩ ∧ ∀ i, i < n → w.cell? ⟨g, off + i, none⟩ = some (.int .i64 ((k + i : Nat) : Int))) :
    Calls Try.prog 50 #[.slice ao n c, .int .i64 k] w fun e w' => e = .returned (.int .i64 ((k + n : Nat) : Int)) ∧ w' = w := by
  have H := Lib.hid h
  clear h
  go_enter Try.func50, Try.ntmps50
  go_wp2
  go_loopw [1, 5] (fun q i wr => ∃ j : Nat, j ≤ n ∧ i = .int .i64 j ∧ q = .int .i64 ((k + j : Nat) : Int) ∧ wr = w) (fun _ i _ => n - (intOf i).toNat)
  case atStart => exact ⟨0, Nat.zero_le _, rfl, rfl, rfl⟩
  case round =>
    obtain ⟨j, hj, rfl, rfl, rfl⟩ := hrel
    by_cases hlt : j < n
    · obtain ⟨g, off, rfl, hc⟩ := H.out (by omega)
      have c0 := hc j hlt
      have hq : k + j ≤ 4194304 := by omega
      clear hc
      obtain ⟨q, hq'⟩ : ∃ q, q = k + j := ⟨_, rfl⟩
      rw [← hq'] at c0 hq ⊢
      go_wp2
      go_roundw
      case rel => exact ⟨j + 1, by omega, by go_num, by go_num, trivial⟩
      case measure => simp [intOf]; omega
    · obtain rfl : j = n := by omega
      go_wp2
      go_ret
      exact ⟨rfl, rfl⟩

/-- Marks laid into a list of a block of one's own, whatever its length; marks found there. -/
theorem markAll (bo : Option Addr) (n c B k : Nat) (f : Nat → Int) (hn : n ≤ 1048576) (hk : k ≤ 2097152) (w : World) (h : Row w bo n c f B) :
    Calls Try.prog 48 #[.slice bo n c, .int .i64 k] w fun e w' => e = .returned (.int .i64 ((k + n : Nat) : Int)) ∧ Row w' bo n c (fun i => ((k + i : Nat) : Int)) B ∧ Below B w w' := by
  by_cases h0 : n = 0
  · subst h0
    refine (markI0 bo c k w).mono ?_
    rintro e w' ⟨rfl, rfl⟩
    exact ⟨rfl, ⟨h.1, fun hp => by omega⟩, Below.refl _ _⟩
  · obtain ⟨hc, hr⟩ := h
    obtain ⟨g, t, N, rfl, hB, hR⟩ := hr (by omega)
    refine (markI g n c N B k t f hn hk hB w hR).mono ?_
    rintro e w' ⟨rfl, hR', _, hb⟩
    exact ⟨rfl, ⟨hc, fun _ => ⟨g, t, N, rfl, hB, hR'⟩⟩, hb⟩
theorem heldAll (bo : Option Addr) (n c B k : Nat) (hn : n ≤ 1048576) (hk : k ≤ 2097152) (w : World) (h : Row w bo n c (fun i => ((k + i : Nat) : Int)) B) :
    Calls Try.prog 50 #[.slice bo n c, .int .i64 k] w fun e w' => e = .returned (.int .i64 ((k + n : Nat) : Int)) ∧ w' = w :=
  heldI bo n c k hn hk w fun hp => by
    obtain ⟨g, t, N, rfl, _, hR⟩ := h.2 hp
    exact ⟨g, 0, rfl, fun i hi => by rw [Nat.zero_add]; exact hR.cell hi⟩
end Go.Proofs.Ytabkjjbhnapgpaa
