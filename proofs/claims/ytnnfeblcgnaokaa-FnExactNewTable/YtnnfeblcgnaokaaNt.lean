/- Lists of lists of cells that are all none: the exact law's helpers over them, and which numbers of stripes there are; over this seat's translation. -/
import Derived.Test.YtnnfeblcgnaokaaRia
import Derived.Deep.Heap
namespace Go.Proofs.Ytnnfeblcgnaokaa
open Go.RowKit Go.Deep Go.ChangeShapes Go.WideShapes Go.ChangeAt

/-- n slices that are none. -/
def NR (w : World) (ao : Option Addr) (n : Nat) : Prop := 0 < n → ∃ g, ao = some ⟨g, 0, none⟩ ∧ g < w.heap.size ∧ ∀ i, i < n → w.cell? ⟨g, i, none⟩ = some (.slice none 0 0)
theorem NR.after {w w' : World} {ao : Option Addr} {n : Nat} (h : NR w ao n) (hb : Below w.heap.size w w') : NR w' ao n := fun hp => by
  obtain ⟨g, e, hl, hc⟩ := h hp
  exact ⟨g, e, Nat.lt_of_lt_of_le hl hb.size, fun i hi => (hb.cell (p := ⟨g, i, none⟩) hl).trans (hc i hi)⟩
theorem nr_nil (w : World) (ao : Option Addr) : NR w ao 0 := fun h => absurd h (Nat.lt_irrefl 0)
theorem NR.of_own {w : World} {base n : Nat} {v : Value} {t : TypeId} (h : w.ownsRow base t 1 v n (List.replicate n (.slice none 0 0))) : ∃ ao c, v = .slice ao n c ∧ NR w ao n := by
  obtain ⟨_, ⟨rfl, rfl⟩ | ⟨g, cap, cur, rfl, hge, hh, hle, _, hsz, htk⟩⟩ := h
  · exact ⟨none, 0, rfl, nr_nil _ _⟩
  · refine ⟨_, cap, rfl, fun hp => ⟨g, rfl, (Array.getElem?_eq_some_iff.1 hh).1, fun i hi => ?_⟩⟩
    have e : cur.toList[i]? = some (.slice none 0 0) := by
      have h2 : (cur.toList.take (n * 1))[i]? = cur.toList[i]? := by rw [List.getElem?_take, if_pos (by omega)]
      rw [← h2, htk]
      simp [hi]
    have e' : cur[i]? = some (.slice none 0 0) := by simpa using e
    simp [World.cell?, hh, e']
theorem made_nil (n : Nat) : (madeCells (Value.slice none 0 0).cells (n * 1)).toList = List.replicate n (.slice none 0 0) := by
  rw [Nat.mul_one]
  apply List.ext_getElem?
  intro i
  by_cases h : i < n <;> simp [madeCells, Value.cells, Nat.mod_one, h]

theorem eqS0 (w : World) : Calls Try.prog 16 #[.slice none 0 0, .slice none 0 0] w fun e w' => e = .returned (.bool true) ∧ w' = w := by
  go_enter Try.func16, Try.ntmps16
  go_wp2
  refine wp_loop_rounds 1 ?_
  rw [rounds_succ]
  go_wp2
  go_ret
  exact ⟨rfl, rfl⟩
theorem markS0 (q : Int) (w : World) : Calls Try.prog 17 #[.slice none 0 0, .int .i64 q] w fun e w' => e = .returned (.int .i64 q) ∧ w' = w := by
  go_enter Try.func17, Try.ntmps17
  go_wp2
  refine wp_loop_rounds 1 ?_
  rw [rounds_succ]
  go_wp2
  go_ret
  exact ⟨rfl, rfl⟩
theorem heldS0 (q : Int) (w : World) : Calls Try.prog 18 #[.slice none 0 0, .int .i64 q] w fun e w' => e = .returned (.int .i64 q) ∧ w' = w := by
  go_enter Try.func18, Try.ntmps18
  go_wp2
  refine wp_loop_rounds 1 ?_
  rw [rounds_succ]
  go_wp2
  go_ret
  exact ⟨rfl, rfl⟩

set_option maxHeartbeats 2000000 in
set_option maxRecDepth 100000 in
theorem eqSS (ao bo : Option Addr) (c d n : Nat) (hn : n ≤ 4) (w : World) (ha : NR w ao n) (hb : NR w bo n) :
    Calls Try.prog 12 #[.slice ao n c, .slice bo n d] w fun e w' => e = .returned (.bool true) ∧ Below w.heap.size w w' := by
  have HA := Lib.hid ha
  have HB := Lib.hid hb
  have HE := Lib.hid eqS0
  clear ha hb
  go_enter Try.func12, Try.ntmps12
  go_wp2
  go_loopw [5] (fun i wr => ∃ k : Nat, k ≤ n ∧ i = .int .i64 k ∧ Hid (Below w.heap.size w wr)) (fun i _ => n - (intOf i).toNat)
  case atStart => exact ⟨0, Nat.zero_le _, rfl, Below.refl _ _⟩
  case round =>
    obtain ⟨k, hk, rfl, hb⟩ := hrel
    by_cases hlt : k < n
    · obtain ⟨g, hao, _, hc⟩ := (HA.out.after hb.out) (by omega)
      obtain ⟨g', hbo, _, hd⟩ := (HB.out.after hb.out) (by omega)
      have hc := hc k hlt
      have hd := hd k hlt
      subst hao hbo
      go_wp2_with fail
      go_quiet ((go_at_call 16; exact Calls.quiet_of_same (HE.out _)))
      go_wp2
      go_roundw
      case rel => exact ⟨k + 1, by omega, by go_num, Lib.hid (below_drewN2 hb.out _)⟩
      case measure => simp [intOf]; omega
    · go_wp2
      go_ret
      exact ⟨rfl, hb.out⟩
set_option maxHeartbeats 2000000 in
set_option maxRecDepth 100000 in
theorem markSS (ao : Option Addr) (c n : Nat) (hn : n ≤ 4) (w : World) (ha : NR w ao n) :
    Calls Try.prog 13 #[.slice ao n c, .int .i64 1] w fun e w' => e = .returned (.int .i64 1) ∧ Below w.heap.size w w' := by
  have HA := Lib.hid ha
  clear ha
  go_enter Try.func13, Try.ntmps13
  go_wp2
  go_loopw [1, 5] (fun q i wr => ∃ k : Nat, k ≤ n ∧ i = .int .i64 k ∧ q = .int .i64 1 ∧ Hid (Below w.heap.size w wr)) (fun _ i _ => n - (intOf i).toNat)
  case atStart => exact ⟨0, Nat.zero_le _, rfl, rfl, Below.refl _ _⟩
  case round =>
    obtain ⟨k, hk, rfl, rfl, hb⟩ := hrel
    by_cases hlt : k < n
    · obtain ⟨g, hao, _, hc⟩ := (HA.out.after hb.out) (by omega)
      have hc := hc k hlt
      subst hao
      go_wp2_with fail
      refine (markS0 1 _).mono ?_
      rintro e w1 ⟨rfl, rfl⟩
      go_wp2
      go_roundw
      case rel => exact ⟨k + 1, by omega, by go_num, rfl, hb⟩
      case measure => simp [intOf]; omega
    · go_wp2
      go_ret
      exact ⟨rfl, hb.out⟩
set_option maxHeartbeats 2000000 in
set_option maxRecDepth 100000 in
theorem heldSS (ao : Option Addr) (c n : Nat) (hn : n ≤ 4) (w : World) (ha : NR w ao n) :
    Calls Try.prog 14 #[.slice ao n c, .int .i64 1] w fun e w' => e = .returned (.int .i64 1) ∧ Below w.heap.size w w' := by
  have HA := Lib.hid ha
  clear ha
  go_enter Try.func14, Try.ntmps14
  go_wp2
  go_loopw [1, 5] (fun q i wr => ∃ k : Nat, k ≤ n ∧ i = .int .i64 k ∧ q = .int .i64 1 ∧ Hid (Below w.heap.size w wr)) (fun _ i _ => n - (intOf i).toNat)
  case atStart => exact ⟨0, Nat.zero_le _, rfl, rfl, Below.refl _ _⟩
  case round =>
    obtain ⟨k, hk, rfl, rfl, hb⟩ := hrel
    by_cases hlt : k < n
    · obtain ⟨g, hao, _, hc⟩ := (HA.out.after hb.out) (by omega)
      have hc := hc k hlt
      subst hao
      go_wp2_with fail
      refine (heldS0 1 _).mono ?_
      rintro e w1 ⟨rfl, rfl⟩
      go_wp2
      go_roundw
      case rel => exact ⟨k + 1, by omega, by go_num, rfl, hb⟩
      case measure => simp [intOf]; omega
    · go_wp2
      go_ret
      exact ⟨rfl, hb.out⟩

/-- A block of three cells. -/
def Tt (W : World) (g : Nat) (y0 y1 y2 : Value) : Prop := ∃ t, W.heap[g]? = some (.cells #[y0, y1, y2] t)
theorem Tt.lt {w : World} {g : Nat} {a b c : Value} (h : Tt w g a b c) : g < w.heap.size := by
  obtain ⟨t, h⟩ := h
  exact (Array.getElem?_eq_some_iff.1 h).1
theorem Tt.below {w w' : World} {g : Nat} {a b c : Value} (h : Tt w g a b c) (hb : Below w.heap.size w w') : Tt w' g a b c := by
  obtain ⟨t, h⟩ := h
  exact ⟨t, (hb.block _ (Array.getElem?_eq_some_iff.1 h).1).trans h⟩
theorem Tt.apart {w w' : World} {g : Nat} {a b c : Value} {row : Option Nat} (h : Tt w g a b c) (hg : w.grownBy w' row) (hr : row ≠ some g) : Tt w' g a b c := by
  obtain ⟨t, h⟩ := h
  exact ⟨t, (hg.block g (Array.getElem?_eq_some_iff.1 h).1 (fun e => hr e.symm)).trans h⟩
theorem Tt.alloc {w : World} {g : Nat} {a b c : Value} (h : Tt w g a b c) (o : Obj) : Tt (w.alloc o) g a b c := h.below ((Below.refl _ _).alloc (Nat.le_refl _) o)
theorem Tt.new (w : World) (a b c : Value) (t : TypeId) : Tt (w.alloc (.cells #[a, b, c] t)) w.heap.size a b c := ⟨t, blk_alloc_new w _⟩
theorem Tt.cells {w : World} {g : Nat} {a b c : Value} (h : Tt w g a b c) : w.cell? ⟨g, 0, none⟩ = some a ∧ w.cell? ⟨g, 1, none⟩ = some b ∧ w.cell? ⟨g, 2, none⟩ = some c ∧ w.frozen? ⟨g, 0, none⟩ = false ∧ w.frozen? ⟨g, 1, none⟩ = false ∧ w.frozen? ⟨g, 2, none⟩ = false := by
  obtain ⟨t, h⟩ := h
  refine ⟨?_, ?_, ?_, ?_, ?_, ?_⟩ <;> simp [World.cell?, World.frozen?, h]

set_option maxHeartbeats 2000000 in
theorem eqTab (ao bo : Option Addr) (c d n : Nat) (hn : n ≤ 4) (w : World) (ha : NR w ao n) (hb : NR w bo n) :
    Calls Try.prog 6 #[.agg #[.int .i64 n, .slice ao n c, .int .i64 0], .agg #[.int .i64 n, .slice bo n d, .int .i64 0]] w fun e w' => e = .returned (.bool true) ∧ Below w.heap.size w w' := by
  have HB0 := Lib.hid (((Below.refl w.heap.size w).alloc (Nat.le_refl _) (.cells #[.int .i64 n, .slice ao n c, .int .i64 0] 24)).alloc (by simp) (.cells #[.int .i64 n, .slice bo n d, .int .i64 0] 24))
  have HX := Lib.hid ((Tt.new w (.int .i64 n) (.slice ao n c) (.int .i64 0) 24).alloc (.cells #[.int .i64 n, .slice bo n d, .int .i64 0] 24))
  have HY := Lib.hid (Tt.new (w.alloc (.cells #[.int .i64 n, .slice ao n c, .int .i64 0] 24)) (.int .i64 n) (.slice bo n d) (.int .i64 0) 24)
  rw [World.size_alloc] at HY
  have HC := Lib.hid (fun W => eqSS ao bo c d n hn W)
  have HNa := Lib.hid (ha.after HB0.out)
  have HNb := Lib.hid (hb.after HB0.out)
  clear ha hb
  go_enter Try.func6, Try.ntmps6
  go_wp2_with fail
  refine (HC.out _ HNa.out HNb.out).mono ?_
  rintro e w1 ⟨rfl, hb1⟩
  obtain ⟨x0, x1, x2, _⟩ := (HX.out.below hb1).cells
  obtain ⟨y0, y1, y2, _⟩ := (HY.out.below hb1).cells
  have HB1 := Lib.hid (HB0.out.trans (hb1.mono HB0.out.size))
  clear hb1
  go_wp2
  go_ret
  exact ⟨rfl, HB1.out⟩
set_option maxHeartbeats 2000000 in
theorem markTab (ao : Option Addr) (c n : Nat) (hn : n ≤ 4) (w : World) (ha : NR w ao n) :
    Calls Try.prog 7 #[.agg #[.int .i64 n, .slice ao n c, .int .i64 0], .int .i64 1] w fun e w' => e = .returned (.int .i64 1) ∧ Below w.heap.size w w' := by
  have HB0 := Lib.hid ((Below.refl w.heap.size w).alloc (Nat.le_refl _) (.cells #[.int .i64 n, .slice ao n c, .int .i64 0] 24))
  have HC := Lib.hid (markSS ao c n hn _ (ha.after HB0.out))
  clear ha
  go_enter Try.func7, Try.ntmps7
  go_wp2_with fail
  refine HC.out.mono ?_
  rintro e w1 ⟨rfl, hb1⟩
  have HB1 := Lib.hid (HB0.out.trans (hb1.mono HB0.out.size))
  clear hb1
  go_wp2
  go_ret
  exact ⟨rfl, HB1.out⟩
set_option maxHeartbeats 2000000 in
theorem heldTab (ao : Option Addr) (c n : Nat) (hn : n ≤ 4) (w : World) (ha : NR w ao n) :
    Calls Try.prog 8 #[.agg #[.int .i64 n, .slice ao n c, .int .i64 0], .int .i64 1] w fun e w' => e = .returned (.int .i64 1) ∧ Below w.heap.size w w' := by
  have HB0 := Lib.hid ((Below.refl w.heap.size w).alloc (Nat.le_refl _) (.cells #[.int .i64 n, .slice ao n c, .int .i64 0] 24))
  have HC := Lib.hid (heldSS ao c n hn _ (ha.after HB0.out))
  clear ha
  go_enter Try.func8, Try.ntmps8
  go_wp2_with fail
  refine HC.out.mono ?_
  rintro e w1 ⟨rfl, hb1⟩
  have HB1 := Lib.hid (HB0.out.trans (hb1.mono HB0.out.size))
  clear hb1
  go_wp2
  go_ret
  exact ⟨rfl, HB1.out⟩
end Go.Proofs.Ytnnfeblcgnaokaa
