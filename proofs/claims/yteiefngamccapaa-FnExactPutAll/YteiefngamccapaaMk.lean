/- Contracts of the marks of the exact laws on samples, and the walk of the law FnExactSamplesOf. -/
import Derived.Test.YteiefngamccapaaWc
import Derived.Laws.Cover2
namespace Go.Proofs.Yteiefngamccapaa
open Go.RowKit Go.Deep

/-- The marks that a list of n samples is given. -/
def marksS (n : Nat) : List Smp := (List.range n).map fun i => (((1 + 2 * i : Nat) : Int), floatOfInt .f64 ((2 + 2 * i : Nat) : Int))
theorem marksS_len (n : Nat) : (marksS n).length = n := by simp [marksS]
theorem marksS_at {n i : Nat} (h : i < (marksS n).length) : (marksS n)[i] = (((1 + 2 * i : Nat) : Int), floatOfInt .f64 ((2 + 2 * i : Nat) : Int)) := by simp [marksS]
theorem mark_same : ∀ k, k < 200 → FloatKind.f64.format.order (floatOfInt .f64 ((k : Nat) : Int)) (floatOfInt .f64 ((k : Nat) : Int)) = some Ordering.eq := by decide +kernel

set_option maxHeartbeats 2000000 in
set_option maxRecDepth 100000 in
theorem mark57 (base n : Nat) (v : Value) (xs : List Value) (hn : n ≤ 60) (w : World) (h : w.ownsRow base 42 2 v n xs) :
    Calls Try.prog 30 #[v, .int .i64 1] w fun e w' => e = .returned (.int .i64 ((1 + 2 * n : Nat) : Int)) ∧ w'.ownsRow base 42 2 v n (cellsS (marksS n)) ∧ w.grownBy w' v.ownBlock := by
  have hst := @run_store_float Try.prog
  rcases h.2 with ⟨rfl, rfl⟩ | ⟨g, c, _, rfl, _⟩
  · go_enter Try.func30, Try.ntmps30
    go_wp2
    refine wp_loop_rounds 1 ?_
    rw [rounds_succ]
    go_wp2
    go_ret
    exact ⟨rfl, ⟨rfl, .inl ⟨rfl, rfl⟩⟩, World.grownBy.refl _ _⟩
  · have hml := marksS_len n
    have HM : Hid (Laid base g c (marksS n) 0 w) := Lib.hid ⟨xs, by rw [hml]; exact h, by simp [cellsS]⟩
    have HML := Lib.hid hml
    have HGr := Lib.hid (fun (w1 : World) (j : Nat) (u : Value) (hL : Laid base g c (marksS n) j w1) => show w1.grownBy (w1.setCell ⟨g, j * 2, none⟩ u) (some g) from by
      obtain ⟨cur, ho, _⟩ := hL
      exact (ho.stored (j * 2) u).2)
    have HDone := Lib.hid (fun (w1 : World) (hL : Laid base g c (marksS n) (marksS n).length w1) => hL.done)
    rw [hml] at HDone
    clear h hml
    go_enter Try.func30, Try.ntmps30
    go_wp2
    go_loopw [1, 5] (fun q i wr => ∃ j : Nat, j ≤ n ∧ i = .int .i64 j ∧ q = .int .i64 ((1 + 2 * j : Nat) : Int) ∧ Hid (Laid base g c (marksS n) j wr) ∧ Hid (w.grownBy wr (some g))) (fun _ i _ => n - (intOf i).toNat)
    case atStart => exact ⟨0, Nat.zero_le _, rfl, rfl, HM, Lib.hid (World.grownBy.refl _ _)⟩
    case round =>
      obtain ⟨j, hj, rfl, rfl, hL, hG⟩ := hrel
      by_cases hlt : j < n
      · have hlt' : j < (marksS n).length := by rw [HML.out]; exact hlt
        have HS := Lib.hid (hL.out.step hlt')
        rw [marksS_at hlt'] at HS
        obtain ⟨⟨u1, t1⟩, ⟨u2, t2⟩, f1, f2⟩ := hL.out.at hlt'
        have HG2 : Hid (w.grownBy ((wr.setCell ⟨g, j * 2, none⟩ (.int .i64 ((1 + 2 * j : Nat) : Int))).setCell ⟨g, j * 2 + 1, none⟩ (.float .f64 (floatOfInt .f64 ((2 + 2 * j : Nat) : Int)))) (some g)) := Lib.hid (by
          obtain ⟨cur, ho, _⟩ := hL.out
          have h1 := ho.stored (j * 2) (.int .i64 ((1 + 2 * j : Nat) : Int))
          exact gb_trans (gb_trans hG.out h1.2) (h1.1.stored (j * 2 + 1) _).2)
        have e1 : ((1 + 2 * j : Nat) : Int) = 1 + 2 * (j : Int) := by omega
        have e2 : ((2 + 2 * j : Nat) : Int) = 1 + 2 * (j : Int) + 1 := by omega
        rw [e1, e2] at HS HG2
        rw [e1]
        clear hL hG e1 e2
        simp only at HS
        obtain ⟨q, hq⟩ : ∃ q : Int, q = 1 + 2 * (j : Int) := ⟨_, rfl⟩
        rw [← hq] at HS HG2 ⊢
        have hq1 : 0 ≤ q := by omega
        have hq2 : q ≤ 200 := by omega
        have HQ := Lib.hid hq
        clear hq
        go_wp2
        go_roundw
        case rel => exact ⟨j + 1, by omega, by go_num, by have := HQ.out; go_num, HS, HG2⟩
        case measure => simp [intOf]; omega
      · obtain rfl : j = n := by omega
        go_wp2
        go_ret
        exact ⟨rfl, HDone.out _ hL.out, hG.out⟩

set_option maxHeartbeats 2000000 in
set_option maxRecDepth 100000 in
theorem held58 (n : Nat) (ao : Option Addr) (c : Nat) (hn : n ≤ 60) (w : World) (h : SRow w w.heap.size ao (marksS n)) :
    Calls Try.prog 35 #[.slice ao n c, .int .i64 1] w fun e w' => e = .returned (.int .i64 ((1 + 2 * n : Nat) : Int)) ∧ w' = w := by
  have H := Lib.hid h
  have hml := Lib.hid (marksS_len n)
  clear h
  go_enter Try.func35, Try.ntmps35
  go_wp2
  go_loopw [1, 5] (fun q i wr => ∃ j : Nat, j ≤ n ∧ i = .int .i64 j ∧ q = .int .i64 ((1 + 2 * j : Nat) : Int) ∧ wr = w) (fun _ i _ => n - (intOf i).toNat)
  case atStart => exact ⟨0, Nat.zero_le _, rfl, rfl, rfl⟩
  case round =>
    obtain ⟨j, hj, rfl, rfl, rfl⟩ := hrel
    by_cases hlt : j < n
    · have hlt' : j < (marksS n).length := by rw [hml.out]; exact hlt
      obtain ⟨b, off, hao, hbl, c0, c1⟩ := H.out.one hlt'
      subst hao
      rw [marksS_at hlt'] at c0 c1
      have ho := mark_same (2 + 2 * j) (by omega)
      have e1 : ((1 + 2 * j : Nat) : Int) = 1 + 2 * (j : Int) := by omega
      have e2 : ((2 + 2 * j : Nat) : Int) = 1 + 2 * (j : Int) + 1 := by omega
      simp only at c0 c1
      rw [e1] at c0 ⊢
      rw [e2] at c1 ho
      clear e1 e2
      obtain ⟨q, hq⟩ : ∃ q : Int, q = 1 + 2 * (j : Int) := ⟨_, rfl⟩
      rw [← hq] at c0 c1 ho ⊢
      have hq1 : 0 ≤ q := by omega
      have hq2 : q ≤ 200 := by omega
      have HQ := Lib.hid hq
      clear hq
      go_wp2
      go_roundw
      case rel => exact ⟨j + 1, by omega, by go_num, by have := HQ.out; go_num, trivial⟩
      case measure => simp [intOf]; omega
    · obtain rfl : j = n := by omega
      go_wp2
      go_ret
      exact ⟨rfl, rfl⟩
end Go.Proofs.Yteiefngamccapaa
