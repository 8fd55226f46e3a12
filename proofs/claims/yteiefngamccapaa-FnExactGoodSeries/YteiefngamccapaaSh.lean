/- Contracts of the helpers of the exact laws on samples and chunks, over this seat's translation: the size, the copy, the comparison. -/
import Derived.Test.YteiefngamccapaaPkMath
import Derived.Test.YteiefngamccapaaJx18
import Derived.StillTailTactics
namespace Go.Proofs.Yteiefngamccapaa
open Go.RowKit Go.Deep

theorem sz50 (ao : Option Addr) (n c : Nat) (hn : n ≤ maxLen) (left : Int) (h0 : 0 ≤ left) (h1 : left ≤ 1048576) (w : World) :
    Calls Try.prog 24 #[.slice ao n c, .int .i64 left] w fun e w' => (∃ r : Int, e = .returned (.int .i64 r) ∧ r ≤ left ∧ ((r = -1 ∧ left < n) ∨ (0 ≤ r ∧ (n : Int) ≤ left))) ∧ w' = w := by
  unfold maxLen at hn
  by_cases c1 : left < n
  · go_enter Try.func24, Try.ntmps24
    go_wp2
    go_ret
    exact ⟨⟨-1, rfl, by omega, .inl ⟨rfl, c1⟩⟩, rfl⟩
  · go_enter Try.func24, Try.ntmps24
    go_wp2
    go_ret
    exact ⟨⟨_, rfl, by omega, by omega⟩, rfl⟩

theorem to55 (a : Int) (b : Nat) (w : World) : Calls Try.prog 22 #[.agg #[.int .i64 a, .float .f64 b]] w fun e w' => e = .returned (.agg #[.int .i64 a, .float .f64 b]) ∧ Below w.heap.size w w' := by
  have hst := @run_store_float Try.prog
  go_enter Try.func22, Try.ntmps22
  go_wp2
  exact bodyPost_ret (v := .agg #[.int .i64 a, .float .f64 b]) (by simp [results, Try.results22, go_sem]) rfl ⟨rfl, (((Below.refl _ _).alloc (Nat.le_refl _) _).alloc (by simp) _).alloc (by simp; omega) _⟩

/-- What a copy comes to: a row of the call's own that holds the samples. -/
def Made (base : Nat) (l : List Smp) (w : World) (e : Ending) (w' : World) : Prop :=
  ∃ v, e = .returned v ∧ w'.ownsRow base 42 2 v l.length (cellsS l) ∧ Below w.heap.size w w'
theorem made_srow {w w' : World} {base : Nat} {l : List Smp} {e : Ending} (h : Made base l w e w') : ∃ ao c, e = .returned (.slice ao l.length c) ∧ w'.ownsRow base 42 2 (.slice ao l.length c) l.length (cellsS l) ∧ SRow w' w'.heap.size ao l ∧ Below w.heap.size w w' := by
  obtain ⟨v, rfl, ho, hb⟩ := h
  obtain ⟨ao, c, rfl⟩ := own_slice ho
  exact ⟨ao, c, rfl, ho, (SRow.of_own ho).2, hb⟩

set_option maxHeartbeats 1000000 in
theorem to51 (ao : Option Addr) (cap : Nat) (l : List Smp) (hn : l.length ≤ 1048576) (w : World) (h : SRow w w.heap.size ao l) :
    Calls Try.prog 26 #[.slice ao l.length cap] w (Made w.heap.size l w) := by
  have H := Lib.hid h
  clear h
  have hst := @run_store_float Try.prog
  obtain ⟨i0, hi0, hz0, hz1, hz2⟩ := info_parts Try.info42
  go_enter Try.func26, Try.ntmps26
  go_wp2_with (refine wpList_make_full _ rfl (.tmp 6) (.tmp 6) 50 rfl w.heap.size 42 i0 _ 2 Try.underlying50 hi0 hz0 hz1 _ _ _ _ l.length rfl rfl rfl rfl (by rw [hz2]; omega) (by unfold maxLen; omega) (Nat.le_refl _) ?_; intro w1 hown1 hg1; have HO := Lib.hid hown1; have HG := Lib.hid hg1; clear hown1 hg1)
  go_loopw [4] (fun i wr => ∃ k : Nat, k ≤ l.length ∧ i = .int .i64 k ∧ Hid (Laid w.heap.size w.heap.size l.length l k wr) ∧ Hid (Below w.heap.size w wr)) (fun i _ => l.length - (intOf i).toNat)
  case atStart => exact ⟨0, Nat.zero_le _, rfl, ⟨_, HO.out, by simp [cellsS]⟩, (Below.refl _ _).grown HG.out (Nat.le_refl _) (fun _ h => by cases h)⟩
  case round =>
    obtain ⟨k, hk, rfl, hL, hb⟩ := hrel
    by_cases hlt : k < l.length
    · obtain ⟨b, off, hao, hbl, hc⟩ := H.out (by omega)
      subst hao
      have c0 := (hb.out.cell (p := ⟨b, off + k * 2, none⟩) hbl).trans (hc k hlt).1
      have c1' := (hb.out.cell (p := ⟨b, off + k * 2 + 1, none⟩) hbl).trans (hc k hlt).2
      have HS := Lib.hid (fun (w1 : World) (h : Laid w.heap.size w.heap.size l.length l k w1) => h.step hlt)
      clear hc
      generalize l[k] = x at c0 c1' HS
      obtain ⟨x1, x2⟩ := x
      go_wp2_with fail
      refine (to55 x1 x2 _).mono ?_
      rintro e w2 ⟨rfl, hb2⟩
      have HL := Lib.hid (hL.out.below hb2)
      have HB := Lib.hid (hb.out.trans (hb2.mono hb.out.size))
      clear hb2
      obtain ⟨⟨u1, t1⟩, ⟨u2, t2⟩, f1, f2⟩ := HL.out.at hlt
      go_wp2
      go_roundw
      case rel => exact ⟨k + 1, by omega, by go_num, HS.out _ HL.out, (HB.out.setCell (Nat.le_refl _) _).setCell (Nat.le_refl _) _⟩
      case measure => simp [intOf]; omega
    · obtain rfl : k = l.length := by omega
      go_wp2
      go_ret
      exact ⟨_, rfl, hL.out.done, hb.out⟩

theorem eq91 (a : Int) (b : Nat) (w : World) : Calls Try.prog 42 #[.agg #[.int .i64 a, .float .f64 b], .agg #[.int .i64 a, .float .f64 b]] w fun e w' => e = .returned (.bool true) ∧ Below w.heap.size w w' := by
  go_enter Try.func42, Try.ntmps42
  go_wp2_with (go_at_call 68; refine (same41 _ _).mono ?_; rintro e w' ⟨rfl, rfl⟩)
  go_ret
  exact ⟨rfl, ((Below.refl _ _).alloc (Nat.le_refl _) _).alloc (by simp) _⟩

set_option maxHeartbeats 1000000 in
set_option maxRecDepth 100000 in
theorem eq52 (ao bo : Option Addr) (c d : Nat) (l : List Smp) (hn : l.length ≤ 1048576) (w : World) (ha : SRow w w.heap.size ao l) (hb : SRow w w.heap.size bo l) :
    Calls Try.prog 29 #[.slice ao l.length c, .slice bo l.length d] w fun e w' => e = .returned (.bool true) ∧ Below w.heap.size w w' := by
  have HA := Lib.hid ha
  have HB := Lib.hid hb
  clear ha hb
  go_enter Try.func29, Try.ntmps29
  go_wp2
  go_loopw [5] (fun i wr => ∃ k : Nat, k ≤ l.length ∧ i = .int .i64 k ∧ Hid (Below w.heap.size w wr)) (fun i _ => l.length - (intOf i).toNat)
  case atStart => exact ⟨0, Nat.zero_le _, rfl, Below.refl _ _⟩
  case round =>
    obtain ⟨k, hk, rfl, hb⟩ := hrel
    by_cases hlt : k < l.length
    · obtain ⟨b, off, hao, hbl, hc⟩ := HA.out (by omega)
      obtain ⟨b', off', hao', hbl', hc'⟩ := HB.out (by omega)
      subst hao hao'
      have c0 := (hb.out.cell (p := ⟨b, off + k * 2, none⟩) hbl).trans (hc k hlt).1
      have c1 := (hb.out.cell (p := ⟨b, off + k * 2 + 1, none⟩) hbl).trans (hc k hlt).2
      have d0 := (hb.out.cell (p := ⟨b', off' + k * 2, none⟩) hbl').trans (hc' k hlt).1
      have d1 := (hb.out.cell (p := ⟨b', off' + k * 2 + 1, none⟩) hbl').trans (hc' k hlt).2
      clear hc hc'
      generalize l[k] = x at c0 c1 d0 d1
      obtain ⟨x1, x2⟩ := x
      go_wp2
      go_still_tail 8, (by kernel_rfl)
      change wpList _ _ _ _ _ wr.drew
      have HB2 := Lib.hid hb.out.drew
      go_wp2_with fail
      refine (eq91 x1 x2 _).mono ?_
      rintro e w2 ⟨rfl, hb2⟩
      have HB3 := Lib.hid (HB2.out.trans (hb2.mono HB2.out.size))
      clear hb2
      go_wp2
      go_roundw
      case rel => exact ⟨k + 1, by omega, by go_num, HB3⟩
      case measure => simp [intOf]; omega
    · go_wp2
      go_ret
      exact ⟨rfl, hb.out⟩

def chV (c : Chk) : Value := .agg #[.string c.1, .int .i64 c.2.1, .int .i64 c.2.2.1, .int .i64 c.2.2.2]

theorem sz53 (s : ByteArray) (a b c : Int) (hs : s.size ≤ maxLen) (left : Int) (h0 : 0 ≤ left) (h1 : left ≤ 1048576) (w : World) :
    Calls Try.prog 72 #[.agg #[.string s, .int .i64 a, .int .i64 b, .int .i64 c], .int .i64 left] w fun e w' => (∃ r : Int, e = .returned (.int .i64 r) ∧ r ≤ left ∧ ((r = -1 ∧ left < s.size) ∨ (0 ≤ r ∧ (s.size : Int) ≤ left))) ∧ Below w.heap.size w w' := by
  unfold maxLen at hs
  by_cases c1 : left < s.size
  · go_enter Try.func72, Try.ntmps72
    go_wp2
    go_ret
    exact ⟨⟨-1, rfl, by omega, .inl ⟨rfl, c1⟩⟩, (Below.refl _ _).alloc (Nat.le_refl _) _⟩
  · go_enter Try.func72, Try.ntmps72
    go_wp2
    go_ret
    exact ⟨⟨_, rfl, by omega, by omega⟩, (Below.refl _ _).alloc (Nat.le_refl _) _⟩

theorem to54 (s : ByteArray) (a b c : Int) (w : World) : Calls Try.prog 75 #[.agg #[.string s, .int .i64 a, .int .i64 b, .int .i64 c]] w fun e w' => e = .returned (.agg #[.string s, .int .i64 a, .int .i64 b, .int .i64 c]) ∧ Below w.heap.size w w' := by
  go_enter Try.func75, Try.ntmps75
  go_wp2
  exact bodyPost_ret (v := .agg #[.string s, .int .i64 a, .int .i64 b, .int .i64 c]) (by simp [results, Try.results75, go_sem]) rfl ⟨rfl, (((Below.refl _ _).alloc (Nat.le_refl _) _).alloc (by simp) _).alloc (by simp; omega) _⟩

theorem eq56 (s : ByteArray) (a b c : Int) (w : World) : Calls Try.prog 77 #[.agg #[.string s, .int .i64 a, .int .i64 b, .int .i64 c], .agg #[.string s, .int .i64 a, .int .i64 b, .int .i64 c]] w fun e w' => e = .returned (.bool true) ∧ Below w.heap.size w w' := by
  go_enter Try.func77, Try.ntmps77
  go_wp2
  go_ret
  exact ⟨rfl, ((Below.refl _ _).alloc (Nat.le_refl _) _).alloc (by simp) _⟩
end Go.Proofs.Yteiefngamccapaa
