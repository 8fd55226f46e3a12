/- Contracts of GoodSamples, in the program and in the model, over this seat's translation: whether the times are within bounds and rise. -/
import Derived.Test.YteiefngamccapaaSr
import Derived.Deep.QuietTactic
import Derived.BigQuiet
namespace Go.Proofs.Yteiefngamccapaa
open Go.RowKit Go.Deep

/-- The time of the sample at a place. -/
def tF (l : List Smp) (i : Nat) : Int := (l[i]?.getD (0, 0)).1
def vF (l : List Smp) (i : Nat) : Nat := (l[i]?.getD (0, 0)).2
theorem tF_at {l : List Smp} {i : Nat} (h : i < l.length) : l[i].1 = tF l i := by simp [tF, h]
theorem vF_at {l : List Smp} {i : Nat} (h : i < l.length) : l[i].2 = vF l i := by simp [vF, h]
theorem tF_in {l : List Smp} (h : FitS l) (i : Nat) : In64 (tF l i) := by
  by_cases hi : i < l.length
  · rw [← tF_at hi]; exact (h.at hi).1
  · unfold tF; rw [List.getElem?_eq_none (by omega)]; exact ⟨by decide, by decide⟩
theorem vF_lt {l : List Smp} (h : FitS l) (i : Nat) : vF l i < 18446744073709551616 := by
  by_cases hi : i < l.length
  · rw [← vF_at hi]; exact (h.at hi).2
  · unfold vF; rw [List.getElem?_eq_none (by omega)]; decide
/-- The first k are good. -/
def goodTo (l : List Smp) (k : Nat) : Prop := ∀ i, i < k → (-1000000 ≤ tF l i ∧ tF l i ≤ 1000000) ∧ (0 < i → tF l (i - 1) < tF l i)
theorem goodTo_zero (l : List Smp) : goodTo l 0 := fun i h => absurd h (by omega)
theorem goodTo_succ {l : List Smp} {k : Nat} (h : goodTo l k) (h1 : -1000000 ≤ tF l k) (h2 : tF l k ≤ 1000000) (h3 : 0 < k → tF l (k - 1) < tF l k) : goodTo l (k + 1) := fun i hi => by
  by_cases e : i = k
  · subst e; exact ⟨⟨h1, h2⟩, h3⟩
  · exact h i (by omega)
theorem good_all {l : List Smp} (h : goodTo l l.length) : goodS l = true := by
  rw [goodS_iff]
  intro i hi
  refine ⟨by rw [tF_at hi]; exact (h i hi).1, fun hj => ?_⟩
  rw [tF_at hi, tF_at hj]
  have := (h (i + 1) hj).2 (by omega)
  simpa using this
theorem good_not {l : List Smp} {k : Nat} (hk : k < l.length) (h : tF l k < -1000000 ∨ 1000000 < tF l k ∨ (0 < k ∧ tF l k ≤ tF l (k - 1))) : goodS l = false := by
  cases hg : goodS l with
  | false => rfl
  | true =>
    exfalso
    rw [goodS_iff] at hg
    have h1 := (hg k hk).1
    rw [tF_at hk] at h1
    rcases h with h | h | ⟨h0, h⟩
    · omega
    · omega
    · have h2 := (hg (k - 1) (by omega)).2 (by omega)
      rw [tF_at (by omega : k - 1 < l.length), tF_at (by omega : k - 1 + 1 < l.length), show k - 1 + 1 = k by omega] at h2
      omega
theorem SRow.tv {w : World} {B : Nat} {ao : Option Addr} {l : List Smp} (h : SRow w B ao l) (hl : 0 < l.length) : ∃ b off, ao = some ⟨b, off, none⟩ ∧ b < B ∧ ∀ k, k < l.length → w.cell? ⟨b, off + k * 2, none⟩ = some (.int .i64 (tF l k)) ∧ w.cell? ⟨b, off + k * 2 + 1, none⟩ = some (.float .f64 (vF l k)) := by
  obtain ⟨b, off, e, hb, hc⟩ := h hl
  exact ⟨b, off, e, hb, fun k hk => by rw [← tF_at hk, ← vF_at hk]; exact hc k hk⟩
theorem box_two {wr : World} {a b : Value} {t : TypeId} : (wr.alloc (.cells #[a, b] t)).cell? ⟨wr.heap.size, 0, none⟩ = some a ∧ (wr.alloc (.cells #[a, b] t)).cell? ⟨wr.heap.size, 1, none⟩ = some b := by
  constructor <;> simp

theorem in105 (n lo hi : Int) (w : World) : Calls Try.prog 53 #[.int .i64 n, .int .i64 lo, .int .i64 hi] w fun e w' => e = .returned (.bool (decide (lo ≤ n) && decide (n ≤ hi))) ∧ w' = w := by
  by_cases h1 : lo ≤ n
  · go_enter Try.func53, Try.ntmps53
    go_wp2
    go_ret
    exact ⟨ret_bool (by simp [h1]), rfl⟩
  · go_enter Try.func53, Try.ntmps53
    go_wp2
    go_ret
    exact ⟨ret_bool (by simp; omega), rfl⟩

theorem in87 (t : Int) (b : Bool) (hb : (decide (-1000000 ≤ t) && decide (t ≤ 1000000)) = b) (w : World) : Calls Try.prog 48 #[.int .i64 t] w fun e w' => e = .returned (.bool b) ∧ w' = w := by
  subst hb
  by_cases h1 : -1000000 ≤ t
  · go_enter Try.func48, Try.ntmps48
    go_wp2
    go_ret
    exact ⟨ret_bool (by simp [h1]), rfl⟩
  · go_enter Try.func48, Try.ntmps48
    go_wp2
    go_ret
    exact ⟨ret_bool (by simp; omega), rfl⟩

set_option maxHeartbeats 2000000 in
set_option maxRecDepth 100000 in
theorem good25 (ao : Option Addr) (c : Nat) (l : List Smp) (hF : FitS l) (hn : l.length ≤ 1048576) (w : World) (h : SRow w w.heap.size ao l) :
    Calls Try.prog 51 #[.slice ao l.length c] w fun e w' => e = .returned (.bool (goodS l)) ∧ Below w.heap.size w w' := by
  have H := Lib.hid h
  have HF := Lib.hid hF
  clear h hF
  go_enter Try.func51, Try.ntmps51
  go_wp2
  go_loopw [7] (fun i wr => ∃ k : Nat, k ≤ l.length ∧ i = .int .i64 k ∧ Hid (goodTo l k) ∧ Hid (Below w.heap.size w wr)) (fun i _ => l.length - (intOf i).toNat)
  case atStart => exact ⟨0, Nat.zero_le _, rfl, Lib.hid (goodTo_zero l), Lib.hid (Below.refl _ _)⟩
  case round =>
    obtain ⟨k, hk, rfl, hG, hB⟩ := hrel
    by_cases hlt : k < l.length
    · obtain ⟨b, off, hao, hbl, hc⟩ := H.out.tv (by omega)
      subst hao
      have c0 := (hB.out.cell (p := ⟨b, off + k * 2, none⟩) hbl).trans (hc k hlt).1
      have c1 := (hB.out.cell (p := ⟨b, off + k * 2 + 1, none⟩) hbl).trans (hc k hlt).2
      have HC := Lib.hid hc
      have HNot := Lib.hid (good_not (l := l) hlt)
      have HSucc := Lib.hid (goodTo_succ hG.out)
      have hst := @run_store_float Try.prog
      clear hc
      obtain ⟨t, ht⟩ : ∃ t, t = tF l k := ⟨_, rfl⟩
      obtain ⟨v, hv⟩ : ∃ v, v = vF l k := ⟨_, rfl⟩
      rw [← ht] at c0 HNot HSucc
      rw [← hv] at c1
      have HB1 := Lib.hid (hB.out.alloc (hB.out.size) (.cells #[.int .i64 t, .float .f64 v] 42))
      clear ht hv
      by_cases h1 : t < -1000000
      · have HF0 := Lib.hid (HNot.out (.inl h1))
        have hd : (decide (-1000000 ≤ t) && decide (t ≤ 1000000)) = false := by simp; omega
        go_wp2_with (go_at_call 48; refine (in87 _ false hd _).mono ?_; rintro _ _ ⟨rfl, rfl⟩)
        go_ret
        exact ⟨ret_bool HF0.out.symm, HB1.out⟩
      by_cases h2 : 1000000 < t
      · have HF0 := Lib.hid (HNot.out (.inr (.inl h2)))
        have hd : (decide (-1000000 ≤ t) && decide (t ≤ 1000000)) = false := by simp; omega
        go_wp2_with (go_at_call 48; refine (in87 _ false hd _).mono ?_; rintro _ _ ⟨rfl, rfl⟩)
        go_ret
        exact ⟨ret_bool HF0.out.symm, HB1.out⟩
      have hd : (decide (-1000000 ≤ t) && decide (t ≤ 1000000)) = true := by simp; omega
      cases k with
      | zero =>
        simp only [Nat.zero_mul, Nat.add_zero] at c0 c1
        have HGo := Lib.hid (HSucc.out (by omega) (by omega) (fun h => by omega))
        go_wp2_with (go_at_call 48; refine (in87 _ true hd _).mono ?_; rintro _ _ ⟨rfl, rfl⟩)
        go_quiet (fail)
        go_wp2
        go_roundw
        case rel => exact ⟨1, by omega, by go_num, HGo, Lib.hid (below_drewN HB1.out _)⟩
        case measure => simp [intOf]; omega
      | succ j =>
        have p0 := (HB1.out.cell (p := ⟨b, off + j * 2, none⟩) hbl).trans (HC.out j (by omega)).1
        rw [show j + 1 - 1 = j from rfl] at HNot HSucc
        obtain ⟨y, hy⟩ : ∃ y, y = tF l j := ⟨_, rfl⟩
        rw [← hy] at p0 HNot HSucc
        have hwr : IntKind.i64.wrap ((j : Int) + 1 - 1) = j := by rw [show (j : Int) + 1 - 1 = j by omega]; exact IntWalk.i64_in _ (by omega)
        clear hy
        by_cases h3 : t ≤ y
        · have HF0 := Lib.hid (HNot.out (.inr (.inr ⟨by omega, h3⟩)))
          go_wp2_with (go_at_call 48; refine (in87 _ true hd _).mono ?_; rintro _ _ ⟨rfl, rfl⟩)
          go_quiet (fail)
          go_wp2
          go_ret
          exact ⟨ret_bool HF0.out.symm, below_drewN HB1.out _⟩
        · have HGo := Lib.hid (HSucc.out (by omega) (by omega) (fun _ => by omega))
          go_wp2_with (go_at_call 48; refine (in87 _ true hd _).mono ?_; rintro _ _ ⟨rfl, rfl⟩)
          go_quiet (fail)
          go_wp2
          go_roundw
          case rel => exact ⟨j + 2, by omega, by go_num, HGo, Lib.hid (below_drewN HB1.out _)⟩
          case measure => simp [intOf]; omega
    · obtain rfl : k = l.length := by omega
      have HG := Lib.hid (good_all hG.out)
      go_wp2
      go_ret
      exact ⟨ret_bool HG.out.symm, hB.out⟩

set_option maxHeartbeats 2000000 in
set_option maxRecDepth 100000 in
theorem good76 (ao : Option Addr) (c : Nat) (l : List Smp) (hF : FitS l) (hn : l.length ≤ 1048576) (w : World) (h : SRow w w.heap.size ao l) :
    Calls Try.prog 74 #[.slice ao l.length c] w fun e w' => e = .returned (.bool (goodS l)) ∧ Below w.heap.size w w' := by
  have H := Lib.hid h
  have HF := Lib.hid hF
  clear h hF
  go_enter Try.func74, Try.ntmps74
  go_wp2
  go_loopw [7] (fun i wr => ∃ k : Nat, k ≤ l.length ∧ i = .int .i64 k ∧ Hid (goodTo l k) ∧ Hid (Below w.heap.size w wr)) (fun i _ => l.length - (intOf i).toNat)
  case atStart => exact ⟨0, Nat.zero_le _, rfl, Lib.hid (goodTo_zero l), Lib.hid (Below.refl _ _)⟩
  case round =>
    obtain ⟨k, hk, rfl, hG, hB⟩ := hrel
    by_cases hlt : k < l.length
    · obtain ⟨b, off, hao, hbl, hc⟩ := H.out.tv (by omega)
      subst hao
      have c0 := (hB.out.cell (p := ⟨b, off + k * 2, none⟩) hbl).trans (hc k hlt).1
      have c1 := (hB.out.cell (p := ⟨b, off + k * 2 + 1, none⟩) hbl).trans (hc k hlt).2
      have HC := Lib.hid hc
      have HNot := Lib.hid (good_not (l := l) hlt)
      have HSucc := Lib.hid (goodTo_succ hG.out)
      have hst := @run_store_float Try.prog
      clear hc
      obtain ⟨t, ht⟩ : ∃ t, t = tF l k := ⟨_, rfl⟩
      obtain ⟨v, hv⟩ : ∃ v, v = vF l k := ⟨_, rfl⟩
      rw [← ht] at c0 HNot HSucc
      rw [← hv] at c1
      have HB1 := Lib.hid (hB.out.alloc (hB.out.size) (.cells #[.int .i64 t, .float .f64 v] 42))
      clear ht hv
      go_wp2_with fail
      obtain ⟨k3, k4⟩ := box_two (wr := wr) (a := .int .i64 t) (b := .float .f64 v) (t := 42)
      generalize wr.alloc (.cells #[.int .i64 t, .float .f64 v] 42) = w2 at HB1 k3 k4 ⊢
      by_cases h1 : t < -1000000
      · have HF0 := Lib.hid (HNot.out (.inl h1))
        have hd : (decide (-1000000 ≤ t) && decide (t ≤ 1000000)) = false := by simp; omega
        go_quiet ((go_at_call 53; exact Calls.quiet_of_same ((in105 t (-1000000) 1000000 _).mono fun _ _ h => ⟨hd ▸ h.1, h.2⟩)))
        go_wp2
        go_ret
        exact ⟨ret_bool HF0.out.symm, below_drewN HB1.out _⟩
      by_cases h2 : 1000000 < t
      · have HF0 := Lib.hid (HNot.out (.inr (.inl h2)))
        have hd : (decide (-1000000 ≤ t) && decide (t ≤ 1000000)) = false := by simp; omega
        go_quiet ((go_at_call 53; exact Calls.quiet_of_same ((in105 t (-1000000) 1000000 _).mono fun _ _ h => ⟨hd ▸ h.1, h.2⟩)))
        go_wp2
        go_ret
        exact ⟨ret_bool HF0.out.symm, below_drewN HB1.out _⟩
      have hd : (decide (-1000000 ≤ t) && decide (t ≤ 1000000)) = true := by simp; omega
      cases k with
      | zero =>
        have HGo := Lib.hid (HSucc.out (by omega) (by omega) (fun h => by omega))
        go_quiet ((go_at_call 53; exact Calls.quiet_of_same ((in105 t (-1000000) 1000000 _).mono fun _ _ h => ⟨hd ▸ h.1, h.2⟩)))
        go_wp2
        go_roundw
        case rel => exact ⟨1, by omega, by go_num, HGo, Lib.hid (below_drewN HB1.out _)⟩
        case measure => simp [intOf]; omega
      | succ j =>
        have p0 := (HB1.out.cell (p := ⟨b, off + j * 2, none⟩) hbl).trans (HC.out j (by omega)).1
        rw [show j + 1 - 1 = j from rfl] at HNot HSucc
        obtain ⟨y, hy⟩ : ∃ y, y = tF l j := ⟨_, rfl⟩
        rw [← hy] at p0 HNot HSucc
        have hwr : IntKind.i64.wrap ((j : Int) + 1 - 1) = j := by rw [show (j : Int) + 1 - 1 = j by omega]; exact IntWalk.i64_in _ (by omega)
        clear hy
        by_cases h3 : t ≤ y
        · have HF0 := Lib.hid (HNot.out (.inr (.inr ⟨by omega, h3⟩)))
          go_quiet ((go_at_call 53; exact Calls.quiet_of_same ((in105 t (-1000000) 1000000 _).mono fun _ _ h => ⟨hd ▸ h.1, h.2⟩)))
          go_wp2
          go_ret
          exact ⟨ret_bool HF0.out.symm, below_drewN HB1.out _⟩
        · have HGo := Lib.hid (HSucc.out (by omega) (by omega) (fun _ => by omega))
          go_quiet ((go_at_call 53; exact Calls.quiet_of_same ((in105 t (-1000000) 1000000 _).mono fun _ _ h => ⟨hd ▸ h.1, h.2⟩)))
          go_wp2
          go_roundw
          case rel => exact ⟨j + 2, by omega, by go_num, HGo, Lib.hid (below_drewN HB1.out _)⟩
          case measure => simp [intOf]; omega
    · obtain rfl : k = l.length := by omega
      have HG := Lib.hid (good_all hG.out)
      go_wp2
      go_ret
      exact ⟨ret_bool HG.out.symm, hB.out⟩
end Go.Proofs.Yteiefngamccapaa
