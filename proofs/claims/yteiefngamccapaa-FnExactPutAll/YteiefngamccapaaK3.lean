/- Contracts of GoodSamples, in the program and in the model, over this seat's translation: whether the times are within bounds and rise. -/
import Derived.Test.YteiefngamccapaaK2
import Derived.Deep.QuietTactic
import Derived.BigQuiet
import Derived.Test.YteiefngamccapaaK1
namespace Go.Proofs.Yteiefngamccapaa
open Go.RowKit Go.Deep

/-- The time of the sample at a place. -/
def tF (l : List Smp) (i : Nat) : Int := (l[i]?.getD (0, 0)).1
def vF (l : List Smp) (i : Nat) : Nat := (l[i]?.getD (0, 0)).2
theorem tF_at {l : List Smp} {i : Nat} (h : i < l.length) : l[i].1 = tF l i := by simp [tF, h]
theorem vF_at {l : List Smp} {i : Nat} (h : i < l.length) : l[i].2 = vF l i := by simp [vF, h]
theorem tF_in {l : List Smp} (h : FitS l) (i : Nat) : In64 (tF l i) := by
  by_cases hi : i < l.length
  · rw [← tF_at hi]; exact (h.at hi).1
  · unfold tF; rw [List.getElem?_eq_none (by omega)]; exact ⟨by decide, by decide⟩
theorem vF_lt {l : List Smp} (h : FitS l) (i : Nat) : vF l i < 18446744073709551616 := by
  by_cases hi : i < l.length
  · rw [← vF_at hi]; exact (h.at hi).2
  · unfold vF; rw [List.getElem?_eq_none (by omega)]; decide
/-- The first k are good. -/
def goodTo (l : List Smp) (k : Nat) : Prop := ∀ i, i < k → (-1000000 ≤ tF l i ∧ tF l i ≤ 1000000) ∧ (0 < i → tF l (i - 1) < tF l i)
theorem goodTo_zero (l : List Smp) : goodTo l 0 := fun i h => absurd h (by omega)
theorem goodTo_succ {l : List Smp} {k : Nat} (h : goodTo l k) (h1 : -1000000 ≤ tF l k) (h2 : tF l k ≤ 1000000) (h3 : 0 < k → tF l (k - 1) < tF l k) : goodTo l (k + 1) := fun i hi => by
  by_cases e : i = k
  · subst e; exact ⟨⟨h1, h2⟩, h3⟩
  · exact h i (by omega)
theorem good_all {l : List Smp} (h : goodTo l l.length) : goodS l = true := by
  rw [goodS_iff]
  intro i hi
  refine ⟨by rw [tF_at hi]; exact (h i hi).1, fun hj => ?_⟩
  rw [tF_at hi, tF_at hj]
  have := (h (i + 1) hj).2 (by omega)
  simpa using this
theorem good_not {l : List Smp} {k : Nat} (hk : k < l.length) (h : tF l k < -1000000 ∨ 1000000 < tF l k ∨ (0 < k ∧ tF l k ≤ tF l (k - 1))) : goodS l = false := by
  cases hg : goodS l with
  | false => rfl
  | true =>
    exfalso
    rw [goodS_iff] at hg
    have h1 := (hg k hk).1
    rw [tF_at hk] at h1
    rcases h with h | h | ⟨h0, h⟩
    · omega
    · omega
    · have h2 := (hg (k - 1) (by omega)).2 (by omega)
      rw [tF_at (by omega : k - 1 < l.length), tF_at (by omega : k - 1 + 1 < l.length), show k - 1 + 1 = k by omega] at h2
      omega
theorem SRow.tv {w : World} {B : Nat} {ao : Option Addr} {l : List Smp} (h : SRow w B ao l) (hl : 0 < l.length) : ∃ b off, ao = some ⟨b, off, none⟩ ∧ b < B ∧ ∀ k, k < l.length → w.cell? ⟨b, off + k * 2, none⟩ = some (.int .i64 (tF l k)) ∧ w.cell? ⟨b, off + k * 2 + 1, none⟩ = some (.float .f64 (vF l k)) := by
  obtain ⟨b, off, e, hb, hc⟩ := h hl
  exact ⟨b, off, e, hb, fun k hk => by rw [← tF_at hk, ← vF_at hk]; exact hc k hk⟩
theorem box_two {wr : World} {a b : Value} {t : TypeId} : (wr.alloc (.cells #[a, b] t)).cell? ⟨wr.heap.size, 0, none⟩ = some a ∧ (wr.alloc (.cells #[a, b] t)).cell? ⟨wr.heap.size, 1, none⟩ = some b := by
  constructor <;> simp

theorem in105 (n lo hi : Int) (w : World) : Calls Try.prog 53 #[.int .i64 n, .int .i64 lo, .int .i64 hi] w fun e w' => e = .returned (.bool (decide (lo ≤ n) && decide (n ≤ hi))) ∧ w' = w := by
  by_cases h1 : lo ≤ n
  · go_enter Try.func53, Try.ntmps53
    go_wp2
    go_ret
    exact ⟨ret_bool (by simp [h1]), rfl⟩
  · go_enter Try.func53, Try.ntmps53
    go_wp2
    go_ret
    exact ⟨ret_bool (by simp; omega), rfl⟩

theorem in87 (t : Int) (b : Bool) (hb : (decide (-1000000 ≤ t) && decide (t ≤ 1000000)) = b) (w : World) : Calls Try.prog 48 #[.int .i64 t] w fun e w' => e = .returned (.bool b) ∧ w' = w := by
  subst hb
  by_cases h1 : -1000000 ≤ t
  · go_enter Try.func48, Try.ntmps48
    go_wp2
    go_ret
    exact ⟨ret_bool (by simp [h1]), rfl⟩
  · go_enter Try.func48, Try.ntmps48
    go_wp2
    go_ret
    exact ⟨ret_bool (by simp; omega), rfl⟩

set_option maxHeartbeats 2000000 in
set_option maxRecDepth 100000 in
theorem good25 (ao : Option Addr) (c : Nat) (l : List Smp) (hF : FitS l) (hn : l.length ≤ 1048576) (w : World) (h : SRow w w.heap.size ao l) :
    Calls Try.prog 51 #[.slice ao l.length c] w fun e w' => e = .returned (.bool (goodS l)) ∧ Below w.heap.size w w' := by
  have H := Lib.hid h
  have HF := Lib.hid hF
  clear h hF
  go_enter Try.func51, Try.ntmps51
  go_wp2
  go_loopw [7] (fun i wr => ∃ k : Nat, k ≤ l.length ∧ i = .int .i64 k ∧ Hid (goodTo l k) ∧ Hid (Below w.heap.size w wr)) (fun i _ => l.length - (intOf i).toNat)
  case atStart => exact ⟨0, Nat.zero_le _, rfl, Lib.hid (goodTo_zero l), Lib.hid (Below.refl _ _)⟩
  case round =>
    obtain ⟨k, hk, rfl, hG, hB⟩ := hrel
    by_cases hlt : k < l.length
    · obtain ⟨b, off, hao, hbl, hc⟩ := H.out.tv (by omega)
      subst hao
      have c0 := (hB.out.cell (p := ⟨b, off + k * 2, none⟩) hbl).trans (hc k hlt).1
      have c1 := (hB.out.cell (p := ⟨b, off + k * 2 + 1, none⟩) hbl).trans (hc k hlt).2
      have HC := Lib.hid hc
      have HNot := Lib.hid (good_not (l := l) hlt)
      have HSucc := Lib.hid (goodTo_succ hG.out)
      have hst := @run_store_float Try.prog
      clear hc
      obtain ⟨t, ht⟩ : ∃ t, t = tF l k := ⟨_, rfl⟩
      obtain ⟨v, hv⟩ : ∃ v, v = vF l k := ⟨_, rfl⟩
      rw [← ht] at c0 HNot HSucc
      rw [← hv] at c1
      have HB1 := Lib.hid (hB.out.alloc (hB.out.size) (.cells #[.int .i64 t, .float .f64 v] 42))
      clear ht hv
      by_cases h1 : t < -1000000
      · have HF0 := Lib.hid (HNot.out (.inl h1))
        have hd : (decide (-1000000 ≤ t) && decide (t ≤ 1000000)) = false := by simp; omega
        go_wp2_with (go_at_call 48; refine (in87 _ false hd _).mono ?_; rintro _ _ ⟨rfl, rfl⟩)
        go_ret
        exact ⟨ret_bool HF0.out.symm, HB1.out⟩
      by_cases h2 : 1000000 < t
      · have HF0 := Lib.hid (HNot.out (.inr (.inl h2)))
        have hd : (decide (-1000000 ≤ t) && decide (t ≤ 1000000)) = false := by simp; omega
        go_wp2_with (go_at_call 48; refine (in87 _ false hd _).mono ?_; rintro _ _ ⟨rfl, rfl⟩)
        go_ret
        exact ⟨ret_bool HF0.out.symm, HB1.out⟩
      have hd : (decide (-1000000 ≤ t) && decide (t ≤ 1000000)) = true := by simp; omega
      cases k with
      | zero =>
        simp only [Nat.zero_mul, Nat.add_zero] at c0 c1
        have HGo := Lib.hid (HSucc.out (by omega) (by omega) (fun h => by omega))
        go_wp2_with (go_at_call 48; refine (in87 _ true hd _).mono ?_; rintro _ _ ⟨rfl, rfl⟩)
        go_quiet (fail)
        go_wp2
        go_roundw
        case rel => exact ⟨1, by omega, by go_num, HGo, Lib.hid (below_drewN HB1.out _)⟩
        case measure => simp [intOf]; omega
      | succ j =>
        have p0 := (HB1.out.cell (p := ⟨b, off + j * 2, none⟩) hbl).trans (HC.out j (by omega)).1
        rw [show j + 1 - 1 = j from rfl] at HNot HSucc
        obtain ⟨y, hy⟩ : ∃ y, y = tF l j := ⟨_, rfl⟩
        rw [← hy] at p0 HNot HSucc
        have hwr : IntKind.i64.wrap ((j : Int) + 1 - 1) = j := by rw [show (j : Int) + 1 - 1 = j by omega]; exact IntWalk.i64_in _ (by omega)
        clear hy
        by_cases h3 : t ≤ y
        · have HF0 := Lib.hid (HNot.out (.inr (.inr ⟨by omega, h3⟩)))
          go_wp2_with (go_at_call 48; refine (in87 _ true hd _).mono ?_; rintro _ _ ⟨rfl, rfl⟩)
          go_quiet (fail)
          go_wp2
          go_ret
          exact ⟨ret_bool HF0.out.symm, below_drewN HB1.out _⟩
        · have HGo := Lib.hid (HSucc.out (by omega) (by omega) (fun _ => by omega))
          go_wp2_with (go_at_call 48; refine (in87 _ true hd _).mono ?_; rintro _ _ ⟨rfl, rfl⟩)
          go_quiet (fail)
          go_wp2
          go_roundw
          case rel => exact ⟨j + 2, by omega, by go_num, HGo, Lib.hid (below_drewN HB1.out _)⟩
          case measure => simp [intOf]; omega
    · obtain rfl : k = l.length := by omega
      have HG := Lib.hid (good_all hG.out)
      go_wp2
      go_ret
      exact ⟨ret_bool HG.out.symm, hB.out⟩

set_option maxHeartbeats 2000000 in
set_option maxRecDepth 100000 in
theorem good76 (ao : Option Addr) (c : Nat) (l : List Smp) (hF : FitS l) (hn : l.length ≤ 1048576) (w : World) (h : SRow w w.heap.size ao l) :
    Calls Try.prog 74 #[.slice ao l.length c] w fun e w' => e = .returned (.bool (goodS l)) ∧ Below w.heap.size w w' := by
  have H := Lib.hid h
  have HF := Lib.hid hF
  clear h hF
  go_enter Try.func74, Try.ntmps74
  go_wp2
  go_loopw [7] (fun i wr => ∃ k : Nat, k ≤ l.length ∧ i = .int .i64 k ∧ Hid (goodTo l k) ∧ Hid (Below w.heap.size w wr)) (fun i _ => l.length - (intOf i).toNat)
  case atStart => exact ⟨0, Nat.zero_le _, rfl, Lib.hid (goodTo_zero l), Lib.hid (Below.refl _ _)⟩
  case round =>
    obtain ⟨k, hk, rfl, hG, hB⟩ := hrel
    by_cases hlt : k < l.length
    · obtain ⟨b, off, hao, hbl, hc⟩ := H.out.tv (by omega)
      subst hao
      have c0 := (hB.out.cell (p := ⟨b, off + k * 2, none⟩) hbl).trans (hc k hlt).1
      have c1 := (hB.out.cell (p := ⟨b, off + k * 2 + 1, none⟩) hbl).trans (hc k hlt).2
      have HC := Lib.hid hc
      have HNot := Lib.hid (good_not (l := l) hlt)
      have HSucc := Lib.hid (goodTo_succ hG.out)
      have hst := @run_store_float Try.prog
      clear hc
      obtain ⟨t, ht⟩ : ∃ t, t = tF l k := ⟨_, rfl⟩
      obtain ⟨v, hv⟩ : ∃ v, v = vF l k := ⟨_, rfl⟩
      rw [← ht] at c0 HNot HSucc
      rw [← hv] at c1
      have HB1 := Lib.hid (hB.out.alloc (hB.out.size) (.cells #[.int .i64 t, .float .f64 v] 42))
      clear ht hv
      go_wp2_with fail
      obtain ⟨k3, k4⟩ := box_two (wr := wr) (a := .int .i64 t) (b := .float .f64 v) (t := 42)
      generalize wr.alloc (.cells #[.int .i64 t, .float .f64 v] 42) = w2 at HB1 k3 k4 ⊢
      by_cases h1 : t < -1000000
      · have HF0 := Lib.hid (HNot.out (.inl h1))
        have hd : (decide (-1000000 ≤ t) && decide (t ≤ 1000000)) = false := by simp; omega
        go_quiet ((go_at_call 53; exact Calls.quiet_of_same ((in105 t (-1000000) 1000000 _).mono fun _ _ h => ⟨hd ▸ h.1, h.2⟩)))
        go_wp2
        go_ret
        exact ⟨ret_bool HF0.out.symm, below_drewN HB1.out _⟩
      by_cases h2 : 1000000 < t
      · have HF0 := Lib.hid (HNot.out (.inr (.inl h2)))
        have hd : (decide (-1000000 ≤ t) && decide (t ≤ 1000000)) = false := by simp; omega
        go_quiet ((go_at_call 53; exact Calls.quiet_of_same ((in105 t (-1000000) 1000000 _).mono fun _ _ h => ⟨hd ▸ h.1, h.2⟩)))
        go_wp2
        go_ret
        exact ⟨ret_bool HF0.out.symm, below_drewN HB1.out _⟩
      have hd : (decide (-1000000 ≤ t) && decide (t ≤ 1000000)) = true := by simp; omega
      cases k with
      | zero =>
        have HGo := Lib.hid (HSucc.out (by omega) (by omega) (fun h => by omega))
        go_quiet ((go_at_call 53; exact Calls.quiet_of_same ((in105 t (-1000000) 1000000 _).mono fun _ _ h => ⟨hd ▸ h.1, h.2⟩)))
        go_wp2
        go_roundw
        case rel => exact ⟨1, by omega, by go_num, HGo, Lib.hid (below_drewN HB1.out _)⟩
        case measure => simp [intOf]; omega
      | succ j =>
        have p0 := (HB1.out.cell (p := ⟨b, off + j * 2, none⟩) hbl).trans (HC.out j (by omega)).1
        rw [show j + 1 - 1 = j from rfl] at HNot HSucc
        obtain ⟨y, hy⟩ : ∃ y, y = tF l j := ⟨_, rfl⟩
        rw [← hy] at p0 HNot HSucc
        have hwr : IntKind.i64.wrap ((j : Int) + 1 - 1) = j := by rw [show (j : Int) + 1 - 1 = j by omega]; exact IntWalk.i64_in _ (by omega)
        clear hy
        by_cases h3 : t ≤ y
        · have HF0 := Lib.hid (HNot.out (.inr (.inr ⟨by omega, h3⟩)))
          go_quiet ((go_at_call 53; exact Calls.quiet_of_same ((in105 t (-1000000) 1000000 _).mono fun _ _ h => ⟨hd ▸ h.1, h.2⟩)))
          go_wp2
          go_ret
          exact ⟨ret_bool HF0.out.symm, below_drewN HB1.out _⟩
        · have HGo := Lib.hid (HSucc.out (by omega) (by omega) (fun _ => by omega))
          go_quiet ((go_at_call 53; exact Calls.quiet_of_same ((in105 t (-1000000) 1000000 _).mono fun _ _ h => ⟨hd ▸ h.1, h.2⟩)))
          go_wp2
          go_roundw
          case rel => exact ⟨j + 2, by omega, by go_num, HGo, Lib.hid (below_drewN HB1.out _)⟩
          case measure => simp [intOf]; omega
    · obtain rfl : k = l.length := by omega
      have HG := Lib.hid (good_all hG.out)
      go_wp2
      go_ret
      exact ⟨ret_bool HG.out.symm, hB.out⟩
end Go.Proofs.Yteiefngamccapaa
namespace Go.Proofs.Yteiefngamccapaa
open Go.RowKit Go.Deep

def strK (l : List Int) (k : Nat) : ByteArray := ⟨(encK l k).toArray⟩
def strE (l : List Int) : ByteArray := ⟨(enc l).toArray⟩
theorem strK_size (l : List Int) (k : Nat) : (strK l k).size = (encK l k).length := by simp [strK, ByteArray.size]
theorem strK_zero (l : List Int) : strK l 0 = txtV l.length := by unfold strK txtV; rw [encK_zero]
theorem strK_all (l : List Int) : strK l l.length = strE l := by unfold strK strE; rw [encK_all]
theorem strK_succ {l : List Int} {k : Nat} (hk : k < l.length) : strK l k ++ txtV (zigN (dd (at0 l) k)) = strK l (k + 1) := by
  unfold strK txtV
  rw [encK_succ hk, ByteArray.mk_append_mk]
/-- The number ahead. -/
def lst (l : List Int) (k : Nat) : Int := if k = 0 then 0 else at0 l (k - 1)
theorem lst_succ (l : List Int) (k : Nat) : lst l (k + 1) = at0 l k := by unfold lst; rw [if_neg (by omega), Nat.add_sub_cancel]
theorem lst_in {l : List Int} (h : ∀ x ∈ l, In64 x) (k : Nat) : In64 (lst l k) := by
  unfold lst; split
  · unfold In64; omega
  · exact at0_in h _
theorem ss_in (x : Nat → Int) (k : Nat) : In64 (ss x k) := by
  unfold ss; split
  · unfold In64; omega
  · exact w64_in _
theorem w64_eq (n : Int) : w64 n = RowKit.wrap64 n := by unfold w64 RowKit.wrap64; rfl
theorem wr_in (n : Int) : In64 (RowKit.wrap64 n) := by rw [← w64_eq]; exact w64_in n
theorem dd_zero (x : Nat → Int) : dd x 0 = x 0 := by unfold dd; rw [if_pos rfl]
theorem dd_more (l : List Int) {k : Nat} (hk : 0 < k) : dd (at0 l) k = RowKit.wrap64 (RowKit.wrap64 (at0 l k - lst l k) - ss (at0 l) k) := by
  unfold dd lst; rw [if_neg (by omega), if_neg (by omega), w64_eq, w64_eq]
theorem ss_more (l : List Int) {k : Nat} (hk : 0 < k) : ss (at0 l) (k + 1) = RowKit.wrap64 (at0 l k - lst l k) := by
  unfold ss lst; rw [if_neg (by omega), if_neg (by omega), Nat.add_sub_cancel, show k + 1 - 2 = k - 1 by omega, w64_eq]
theorem at0_get {l : List Int} {k : Nat} (hk : k < l.length) : at0 l k = l[k] := by simp [at0, List.getD, hk]

set_option maxHeartbeats 2000000 in
set_option maxRecDepth 100000 in
theorem list53 (ao : Option Addr) (cap : Nat) (l : List Int) (hn : l.length ≤ 60) (w : World) (h : IRow w w.heap.size ao l) :
    Calls Try.prog 104 #[.slice ao l.length cap] w fun e w' => e = .returned (.string (strE l)) ∧ Below w.heap.size w w' := by
  have H := Lib.hid h
  have HS := Lib.hid (fun k => encK_len h.1 (by omega) k)
  clear h
  go_enter Try.func104, Try.ntmps104
  go_wp2_with fail
  refine (put39 l.length (by omega) _).mono ?_
  rintro e w1 ⟨rfl, hb1⟩
  have HB1 := Lib.hid hb1
  clear hb1
  rw [← strK_zero]
  go_wp2
  go_loopw [3, 4, 5, 15] (fun s q p i wr => ∃ k : Nat, k ≤ l.length ∧ i = .int .i64 k ∧ s = .string (strK l k) ∧ q = .int .i64 (lst l k) ∧ p = .int .i64 (ss (at0 l) k) ∧ Hid (Below w.heap.size w wr)) (fun _ _ _ i _ => l.length - (intOf i).toNat)
  case atStart => exact ⟨0, Nat.zero_le _, rfl, rfl, rfl, rfl, HB1⟩
  case round =>
    obtain ⟨k, hk, rfl, rfl, rfl, rfl, hb⟩ := hrel
    by_cases hlt : k < l.length
    · obtain ⟨b, off, hao, hbl, hc⟩ := H.out.2 (by omega)
      subst hao
      have c0 := (hb.out.cell (p := ⟨b, off + k, none⟩) hbl).trans (hc k hlt)
      rw [← at0_get hlt] at c0
      have hz : (strK l k).size ≤ 700 := by rw [strK_size]; have := HS.out k; omega
      have HX := Lib.hid (strK_succ hlt)
      have HL := Lib.hid (lst_succ l k)
      have Hx := Lib.hid (at0_in H.out.1 k)
      clear hc
      by_cases h0 : k = 0
      · subst h0
        have HD := Lib.hid (dd_zero (at0 l))
        have h00 : lst l 0 = 0 := rfl
        have h01 : ss (at0 l) 0 = 0 := rfl
        have HS1 : Hid (ss (at0 l) 1 = 0) := Lib.hid rfl
        rw [h00, h01]
        rw [Nat.add_zero] at c0
        rw [HD.out] at HX
        generalize strK l 0 = s at hz HX
        generalize at0 l 0 = x at c0 HX Hx HL
        go_wp2_with fail
        refine (zig20 x Hx.out _).mono ?_
        rintro e w2 ⟨rfl, rfl⟩
        go_wp2_with fail
        refine (put39 (zigN x) (zig_lt Hx.out) _).mono ?_
        rintro e w3 ⟨rfl, hb3⟩
        have HB3 := Lib.hid (hb.out.trans (hb3.mono hb.out.size))
        have ht : (txtV (zigN x)).size ≤ 10 := by rw [txtV_size]; exact putV_ten (zig_lt Hx.out)
        clear hb3
        generalize txtV (zigN x) = t at ht HX
        go_wp2
        go_roundw
        case rel => exact ⟨1, by omega, by go_num, by rw [HX.out], by rw [HL.out], by rw [HS1.out], HB3⟩
        case measure => simp [intOf]; omega
      · have HD := Lib.hid (dd_more l (k := k) (by omega))
        have HS1 := Lib.hid (ss_more l (k := k) (by omega))
        rw [HD.out] at HX
        have hk0 : ((k : Int) == 0) = false := by simpa using h0
        have Hi := Lib.hid (lst_in H.out.1 k)
        generalize strK l k = s at hz HX
        generalize at0 l k = x at c0 HX Hx HL HS1
        generalize lst l k = y at HX HS1 Hi
        generalize ss (at0 l) k = p at HX
        have HZ := Lib.hid (show In64 (RowKit.wrap64 (RowKit.wrap64 (x - y) - p)) from wr_in _)
        go_wp2_with fail
        refine (zig20 (RowKit.wrap64 (RowKit.wrap64 (x - y) - p)) HZ.out _).mono ?_
        rintro e w2 ⟨rfl, rfl⟩
        go_wp2_with fail
        refine (put39 (zigN (RowKit.wrap64 (RowKit.wrap64 (x - y) - p))) (zig_lt HZ.out) _).mono ?_
        rintro e w3 ⟨rfl, hb3⟩
        have HB3 := Lib.hid (hb.out.trans (hb3.mono hb.out.size))
        have ht : (txtV (zigN (RowKit.wrap64 (RowKit.wrap64 (x - y) - p)))).size ≤ 10 := by rw [txtV_size]; exact putV_ten (zig_lt HZ.out)
        clear hb3
        generalize txtV (zigN (RowKit.wrap64 (RowKit.wrap64 (x - y) - p))) = t at ht HX
        go_wp2
        go_roundw
        case rel => exact ⟨k + 1, by omega, by go_num, by rw [HX.out], by rw [HL.out], by rw [HS1.out], HB3⟩
        case measure => simp [intOf]; omega
    · obtain rfl : k = l.length := by omega
      have HE := Lib.hid (strK_all l)
      go_wp2
      go_ret
      exact ⟨ret_str HE.out, hb.out⟩

/-- What PutList answers. -/
def fitsL (l : List Int) : Bool := decide (l.length ≤ 60) && decide ((strE l).size ≤ 400)
def putF (l : List Int) : ByteArray := bif fitsL l then strE l else ⟨#[]⟩
theorem putF_yes {l : List Int} (h : fitsL l = true) : putF l = strE l := by simp [putF, h]
theorem putF_no {l : List Int} (h : fitsL l = false) : putF l = ⟨#[]⟩ := by simp [putF, h]
theorem ret_strb {a b : ByteArray} {c d : Bool} (h : a = b) (h' : c = d) : Ending.returned (.tuple #[.string a, .bool c]) = .returned (.tuple #[.string b, .bool d]) := by rw [h, h']

end Go.Proofs.Yteiefngamccapaa
namespace Go.Proofs.Yteiefngamccapaa

theorem xc_get : ∀ (p : Nat) (vs : List Nat) (k : Nat), k < vs.length → (xc p vs)[k]? = some (flipN (vs[k]?.getD 0 ^^^ (if k = 0 then p else vs[k - 1]?.getD 0)))
  | _, [], k, h => by simp at h
  | p, b :: r, 0, _ => by simp [xc]
  | p, b :: r, k + 1, h => by
    rw [xc, List.getElem?_cons_succ, xc_get b r k (by simpa using h)]
    cases k with
    | zero => simp
    | succ k => simp
/-- The value's bits ahead of a place. -/
def prevV (l : List Smp) (k : Nat) : Nat := if k = 0 then 0 else vF l (k - 1)
def fxV (l : List Smp) (k : Nat) : Nat := flipN (vF l k ^^^ prevV l k)
theorem prevV_zero (l : List Smp) : prevV l 0 = 0 := rfl
theorem prevV_succ (l : List Smp) (k : Nat) : prevV l (k + 1) = vF l k := by unfold prevV; rw [if_neg (by omega), Nat.add_sub_cancel]
theorem prevV_lt {l : List Smp} (h : FitS l) (k : Nat) : prevV l k < 18446744073709551616 := by
  unfold prevV
  split
  · decide
  · exact vF_lt h _
theorem xc_at {l : List Smp} {k : Nat} (hk : k < l.length) : (xc 0 (l.map (·.2)))[k]? = some (fxV l k) := by
  rw [xc_get 0 _ k (by simpa using hk)]
  unfold fxV prevV vF
  congr 2
  congr 1
  · simp [hk]
  · by_cases h0 : k = 0
    · rw [if_pos h0, if_pos h0]
    · rw [if_neg h0, if_neg h0]
      simp [show k - 1 < l.length by omega]
def tailK (l : List Smp) (k : Nat) : List UInt8 := byS ((xc 0 (l.map (·.2))).take k)
theorem tailK_zero (l : List Smp) : tailK l 0 = [] := by simp [tailK, byS_nil]
theorem tailK_succ {l : List Smp} {k : Nat} (hk : k < l.length) : tailK l (k + 1) = tailK l k ++ putV (fxV l k) := by
  unfold tailK
  have hk' : k < (xc 0 (l.map (·.2))).length := by rw [xc_len, List.length_map]; exact hk
  rw [List.take_succ_eq_append_getElem hk', byS_append, byS_one]
  have := xc_at hk
  rw [List.getElem?_eq_getElem hk'] at this
  injection this with this
  rw [this]
theorem tailK_all (l : List Smp) : enc (l.map (·.1)) ++ tailK l l.length = packB l := by
  unfold tailK packB
  rw [List.take_of_length_le (by rw [xc_len, List.length_map]; exact Nat.le_refl _)]
theorem tailK_len (l : List Smp) (k : Nat) : (tailK l k).length ≤ 10 * l.length := by
  unfold tailK
  have h := byS_len (us := (xc 0 (l.map (·.2))).take k) (fun u hu => xc_fit 0 _ u (List.mem_of_mem_take hu))
  rw [List.length_take, xc_len, List.length_map] at h
  omega
def txK (l : List Smp) (k : Nat) : ByteArray := ⟨(tailK l k).toArray⟩
def strP (l : List Smp) : ByteArray := ⟨(packB l).toArray⟩
theorem txK_size (l : List Smp) (k : Nat) : (txK l k).size = (tailK l k).length := by simp [txK, ByteArray.size]
theorem strP_size (l : List Smp) : (strP l).size = (packB l).length := by simp [strP, ByteArray.size]
theorem txK_zero (l : List Smp) : txK l 0 = ⟨#[]⟩ := by unfold txK; rw [tailK_zero]
theorem txK_succ {l : List Smp} {k : Nat} (hk : k < l.length) : txK l k ++ txtV (fxV l k) = txK l (k + 1) := by
  unfold txK txtV
  rw [tailK_succ hk, ByteArray.mk_append_mk]
theorem strE_txK (l : List Smp) : strE (l.map (·.1)) ++ txK l l.length = strP l := by
  unfold strE txK strP
  rw [← tailK_all, ByteArray.mk_append_mk]
theorem strE_fits {l : List Int} (h : ∀ x ∈ l, In64 x) (h8 : l.length ≤ 8) : fitsL l = true := by
  have h1 := encK_len (l := l) h (by omega) l.length
  rw [encK_all] at h1
  have h2 : (strE l).size = (enc l).length := by simp [strE, ByteArray.size]
  unfold fitsL
  simp
  omega
theorem strE_small {l : List Int} (h : ∀ x ∈ l, In64 x) (h8 : l.length ≤ 8) : (strE l).size ≤ 400 := by
  have := strE_fits h h8
  unfold fitsL at this
  simp at this
  exact this.2

abbrev Chk := ByteArray × Int × Int × Int
def zeroC : Chk := (⟨#[]⟩, 0, 0, 0)
/-- The chunk of samples. -/
def pkC (l : List Smp) : Chk := if l.length = 0 then zeroC else (strP l, (l.length : Int), tF l 0, tF l (l.length - 1))
theorem pkC_nil : pkC [] = zeroC := rfl
theorem pkC_some {l : List Smp} (h : 0 < l.length) : pkC l = (strP l, (l.length : Int), tF l 0, tF l (l.length - 1)) := by unfold pkC; rw [if_neg (by omega)]
theorem pkC_one {l l' : List Smp} (h : FitS l) (h' : FitS l') (he : pkC l = pkC l') : l = l' := by
  by_cases h0 : l.length = 0
  · have e0 : l = [] := List.eq_nil_of_length_eq_zero h0
    subst e0
    by_cases h1 : l'.length = 0
    · exact (List.eq_nil_of_length_eq_zero h1).symm
    · rw [pkC_nil, pkC_some (by omega)] at he
      have := congrArg (fun q => q.2.1) he
      simp only [zeroC] at this
      omega
  · by_cases h1 : l'.length = 0
    · have e1 : l' = [] := List.eq_nil_of_length_eq_zero h1
      subst e1
      rw [pkC_nil, pkC_some (by omega)] at he
      have := congrArg (fun q => q.2.1) he
      simp only [zeroC] at this
      omega
    · rw [pkC_some (by omega), pkC_some (by omega)] at he
      have e := congrArg (fun q => q.1.data.toList) he
      have e2 : packB l = packB l' := by simpa [strP] using e
      exact packB_one h h' e2
/-- Whether samples are packed. -/
def pkB (l : List Smp) : Bool := decide (l.length ≤ 8) && goodS l
def pkR (l : List Smp) : Chk := if pkB l = true then pkC l else zeroC
theorem pkB_long {l : List Smp} (h : 8 < l.length) : pkB l = false := by unfold pkB; simp; omega
theorem pkB_bad {l : List Smp} (h : goodS l = false) : pkB l = false := by unfold pkB; simp [h]
theorem pkB_good {l : List Smp} (h8 : l.length ≤ 8) (h : goodS l = true) : pkB l = true := by unfold pkB; simp [h, h8]
theorem pkR_no {l : List Smp} (h : pkB l = false) : pkR l = zeroC := by unfold pkR; rw [if_neg (by rw [h]; decide)]
theorem pkR_yes {l : List Smp} (h : pkB l = true) : pkR l = pkC l := by unfold pkR; rw [if_pos h]
theorem pkB_fit {l : List Smp} (h : pkB l = true) : l.length ≤ 8 ∧ goodS l = true := by unfold pkB at h; simpa using h
end Go.Proofs.Yteiefngamccapaa
