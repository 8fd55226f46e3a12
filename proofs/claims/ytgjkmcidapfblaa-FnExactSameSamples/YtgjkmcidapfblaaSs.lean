/- Contracts of SameSamples and its like, in the program, in the model and in the laws, over this seat's translation: whether two lists are of the same samples, bit by bit. -/
import Derived.Test.YtgjkmcidapfblaaPkMath
import Derived.Test.YtgjkmcidapfblaaKinds
import Derived.Deep.QuietTactic
import Derived.BigQuiet
namespace Go.Proofs.Ytgjkmcidapfblaa
open Go.RowKit Go.Deep

def sameS (a b : List Smp) : Bool := decide (a = b)
/-- The first k are the same. -/
def sameTo (a b : List Smp) (k : Nat) : Prop := ∀ i, i < k → tF a i = tF b i ∧ vF a i = vF b i
theorem sameTo_zero (a b : List Smp) : sameTo a b 0 := fun i h => absurd h (by omega)
theorem sameTo_succ {a b : List Smp} {k : Nat} (h : sameTo a b k) (h1 : tF a k = tF b k) (h2 : vF a k = vF b k) : sameTo a b (k + 1) := fun i hi => by
  by_cases e : i = k
  · subst e; exact ⟨h1, h2⟩
  · exact h i (by omega)
theorem same_all {a b : List Smp} (hl : a.length = b.length) (h : sameTo a b a.length) : sameS a b = true := by
  have : a = b := by
    apply List.ext_getElem hl
    intro i h1 h2
    obtain ⟨e1, e2⟩ := h i h1
    rw [← tF_at h1, ← tF_at h2] at e1
    rw [← vF_at h1, ← vF_at h2] at e2
    exact Prod.ext e1 e2
  simp [sameS, this]
theorem same_not {a b : List Smp} {k : Nat} (h : tF a k ≠ tF b k ∨ vF a k ≠ vF b k) : sameS a b = false := by
  have : a ≠ b := by
    rintro rfl
    rcases h with h | h <;> exact h rfl
  simp [sameS, this]
theorem same_len {a b : List Smp} (h : a.length ≠ b.length) : sameS a b = false := by
  have : a ≠ b := by rintro rfl; exact h rfl
  simp [sameS, this]

set_option maxHeartbeats 2000000 in
set_option maxRecDepth 100000 in
theorem same90 (ao bo : Option Addr) (c d : Nat) (a b : List Smp) (hn : a.length ≤ 1048576) (w : World) (ha : SRow w w.heap.size ao a) (hb : SRow w w.heap.size bo b) :
    Calls Try.prog 46 #[.slice ao a.length c, .slice bo b.length d] w fun e w' => e = .returned (.bool (sameS a b)) ∧ Below w.heap.size w w' := by
  have HA := Lib.hid ha; have HB := Lib.hid hb
  clear ha hb
  by_cases hl : a.length = b.length
  case neg =>
    have HF := Lib.hid (same_len hl)
    have hne : ((a.length : Int) == (b.length : Int)) = false := beq_eq_false_iff_ne.2 (by omega)
    go_enter Try.func46, Try.ntmps46
    go_wp2
    go_ret
    exact ⟨ret_bool HF.out.symm, Below.refl _ _⟩
  have HAll := Lib.hid (same_all (a := a) (b := b) hl)
  rw [← hl]
  obtain ⟨n, hn1⟩ : ∃ n, n = a.length := ⟨_, rfl⟩
  have HLa := Lib.hid hn1; have HLb := Lib.hid (hn1.trans hl)
  rw [← hn1] at HAll hn ⊢
  clear hn1 hl
  go_enter Try.func46, Try.ntmps46
  go_wp2
  go_loopw [13] (fun i wr => ∃ k : Nat, k ≤ n ∧ i = .int .i64 k ∧ Hid (sameTo a b k) ∧ Hid (Below w.heap.size w wr)) (fun i _ => n - (intOf i).toNat)
  case atStart => exact ⟨0, Nat.zero_le _, rfl, Lib.hid (sameTo_zero a b), Lib.hid (Below.refl _ _)⟩
  case round =>
    obtain ⟨k, hk, rfl, hS, hB⟩ := hrel
    by_cases hlt : k < n
    · have hka : k < a.length := by have := HLa.out; omega
      have hkb : k < b.length := by have := HLb.out; omega
      obtain ⟨ba, oa, hao, hbl, hc⟩ := HA.out.tv (by omega)
      obtain ⟨bb, ob, hbo, hbl', hc'⟩ := HB.out.tv (by omega)
      subst hao hbo
      have a0 := (hB.out.cell (p := ⟨ba, oa + k * 2, none⟩) hbl).trans (hc k hka).1
      have a1 := (hB.out.cell (p := ⟨ba, oa + k * 2 + 1, none⟩) hbl).trans (hc k hka).2
      have b0 := (hB.out.cell (p := ⟨bb, ob + k * 2, none⟩) hbl').trans (hc' k hkb).1
      have b1 := (hB.out.cell (p := ⟨bb, ob + k * 2 + 1, none⟩) hbl').trans (hc' k hkb).2
      have HNot := Lib.hid (same_not (a := a) (b := b) (k := k))
      have HSucc := Lib.hid (sameTo_succ hS.out)
      clear hc hc' hka hkb
      generalize tF a k = x at a0 HNot HSucc
      generalize tF b k = y at b0 HNot HSucc
      generalize vF a k = p at a1 HNot HSucc
      generalize vF b k = q at b1 HNot HSucc
      by_cases hxy : x = y
      case neg =>
        have HF := Lib.hid (HNot.out (.inl hxy))
        have h1 : (x == y) = false := beq_eq_false_iff_ne.2 hxy
        have h2 : (x != y) = true := by simp [hxy]
        go_wp2_with fail
        go_quiet (fail)
        have HD := Lib.hid (below_drewN hB.out nq)
        go_wp2
        go_ret
        exact ⟨ret_bool HF.out.symm, HD.out⟩
      subst hxy
      by_cases hpq : p = q
      · subst hpq
        have HGo := Lib.hid (HSucc.out rfl rfl)
        have hd : sameB p p = true := by simp [sameB]
        go_wp2_with fail
        go_quiet ((go_at_call 68; exact Calls.quiet_of_same ((same50 p p _).mono fun _ _ h => ⟨hd ▸ h.1, h.2.symm⟩)))
        have HD := Lib.hid (below_drewN hB.out nq)
        go_wp2
        go_roundw
        case rel => exact ⟨k + 1, by omega, by go_num, HGo, HD⟩
        case measure => simp [intOf]; omega
      · have HF := Lib.hid (HNot.out (.inr hpq))
        have hd : sameB p q = false := by simp [sameB, hpq]
        go_wp2_with fail
        go_quiet ((go_at_call 68; exact Calls.quiet_of_same ((same50 p q _).mono fun _ _ h => ⟨hd ▸ h.1, h.2.symm⟩)))
        have HD := Lib.hid (below_drewN hB.out nq)
        go_wp2
        go_ret
        exact ⟨ret_bool HF.out.symm, HD.out⟩
    · obtain rfl : k = n := by omega
      have HF := Lib.hid (HAll.out hS.out)
      go_wp2
      go_ret
      exact ⟨ret_bool HF.out.symm, hB.out⟩

theorem same45 (ao bo : Option Addr) (c d : Nat) (a b : List Smp) (hn : a.length ≤ 1048576) (w : World) (ha : SRow w w.heap.size ao a) (hb : SRow w w.heap.size bo b) :
    Calls Try.prog 34 #[.slice ao a.length c, .slice bo b.length d] w fun e w' => e = .returned (.bool (sameS a b)) ∧ Below w.heap.size w w' := by
  have HC := Lib.hid (same90 ao bo c d a b hn w ha hb)
  clear ha hb
  generalize sameS a b = g at HC
  go_enter Try.func34, Try.ntmps34
  go_wp2_with fail
  refine HC.out.mono ?_
  rintro e w1 ⟨rfl, hb1⟩
  have HB1 := Lib.hid hb1
  clear hb1
  go_wp2
  go_ret
  exact ⟨rfl, HB1.out⟩

set_option maxRecDepth 100000 in
theorem same89 (x y : Int) (p q : Nat) (w : World) : Calls Try.prog 48 #[.agg #[.int .i64 x, .float .f64 p], .agg #[.int .i64 y, .float .f64 q]] w fun e w' => e = .returned (.bool (decide (x = y ∧ p = q))) ∧ Below w.heap.size w w' := by
  have HB := Lib.hid (((Below.refl w.heap.size w).alloc (Nat.le_refl _) (.cells #[.int .i64 x, .float .f64 p] 41)).alloc (by simp) (.cells #[.int .i64 y, .float .f64 q] 41))
  by_cases hxy : x = y
  · subst hxy
    have hd : sameB p q = decide (x = x ∧ p = q) := by unfold sameB; by_cases h : p = q <;> simp [h]
    go_enter Try.func48, Try.ntmps48
    go_wp2_with (go_at_call 69; refine (same26 p q _).mono ?_; rintro e w' ⟨rfl, rfl⟩)
    go_ret
    exact ⟨ret_bool hd, HB.out⟩
  · have hd : decide (x = y ∧ p = q) = false := by simp [hxy]
    have h1 : (x == y) = false := beq_eq_false_iff_ne.2 hxy
    go_enter Try.func48, Try.ntmps48
    go_wp2
    go_ret
    exact ⟨ret_bool hd.symm, HB.out⟩

set_option maxHeartbeats 2000000 in
set_option maxRecDepth 100000 in
theorem same88 (ao bo : Option Addr) (c d : Nat) (a b : List Smp) (hn : a.length ≤ 1048576) (w : World) (ha : SRow w w.heap.size ao a) (hb : SRow w w.heap.size bo b) :
    Calls Try.prog 47 #[.slice ao a.length c, .slice bo b.length d, .func (.func 48) #[] #[]] w fun e w' => e = .returned (.bool (sameS a b)) ∧ Below w.heap.size w w' := by
  have HA := Lib.hid ha; have HB := Lib.hid hb
  clear ha hb
  have hst := @run_store_float Try.prog
  by_cases hl : a.length = b.length
  case neg =>
    have HF := Lib.hid (same_len hl)
    have hne : ((a.length : Int) == (b.length : Int)) = false := beq_eq_false_iff_ne.2 (by omega)
    go_enter Try.func47, Try.ntmps47
    go_wp2
    go_ret
    exact ⟨ret_bool HF.out.symm, Below.refl _ _⟩
  have HAll := Lib.hid (same_all (a := a) (b := b) hl)
  rw [← hl]
  obtain ⟨n, hn1⟩ : ∃ n, n = a.length := ⟨_, rfl⟩
  have HLa := Lib.hid hn1; have HLb := Lib.hid (hn1.trans hl)
  rw [← hn1] at HAll hn ⊢
  clear hn1 hl
  go_enter Try.func47, Try.ntmps47
  go_wp2
  go_loopw [17] (fun i wr => ∃ k : Nat, k ≤ n ∧ i = .int .i64 k ∧ Hid (sameTo a b k) ∧ Hid (Below w.heap.size w wr)) (fun i _ => n - (intOf i).toNat)
  case atStart => exact ⟨0, Nat.zero_le _, rfl, Lib.hid (sameTo_zero a b), Lib.hid (Below.refl _ _)⟩
  case round =>
    obtain ⟨k, hk, rfl, hS, hB⟩ := hrel
    by_cases hlt : k < n
    · have hka : k < a.length := by have := HLa.out; omega
      have hkb : k < b.length := by have := HLb.out; omega
      obtain ⟨ba, oa, hao, hbl, hc⟩ := HA.out.tv (by omega)
      obtain ⟨bb, ob, hbo, hbl', hc'⟩ := HB.out.tv (by omega)
      subst hao hbo
      have a0 := (hB.out.cell (p := ⟨ba, oa + k * 2, none⟩) hbl).trans (hc k hka).1
      have a1 := (hB.out.cell (p := ⟨ba, oa + k * 2 + 1, none⟩) hbl).trans (hc k hka).2
      have HB1 := Lib.hid (hB.out.alloc hB.out.size (.cells #[.int .i64 (tF a k), .float .f64 (vF a k)] 41))
      have b0 := (HB1.out.cell (p := ⟨bb, ob + k * 2, none⟩) hbl').trans (hc' k hkb).1
      have b1 := (HB1.out.cell (p := ⟨bb, ob + k * 2 + 1, none⟩) hbl').trans (hc' k hkb).2
      have HB2 := Lib.hid (HB1.out.alloc HB1.out.size (.cells #[.int .i64 (tF b k), .float .f64 (vF b k)] 41))
      have HNot := Lib.hid (same_not (a := a) (b := b) (k := k))
      have HSucc := Lib.hid (sameTo_succ hS.out)
      clear hc hc' hka hkb HB1
      generalize tF a k = x at a0 HNot HSucc HB2 b0 b1
      generalize tF b k = y at b0 HNot HSucc HB2
      generalize vF a k = p at a1 HNot HSucc HB2 b0 b1
      generalize vF b k = q at b1 HNot HSucc HB2
      go_wp2_with fail
      refine (same89 x y p q _).mono ?_
      rintro e w2 ⟨rfl, hb2⟩
      have HB3 := Lib.hid (HB2.out.trans (hb2.mono HB2.out.size))
      clear hb2
      by_cases hxy : x = y ∧ p = q
      · have HGo := Lib.hid (HSucc.out hxy.1 hxy.2)
        have hd : decide (x = y ∧ p = q) = true := by simp [hxy]
        rw [hd]
        go_wp2
        go_roundw
        case rel => exact ⟨k + 1, by omega, by go_num, HGo, HB3⟩
        case measure => simp [intOf]; omega
      · have HF := Lib.hid (HNot.out (by by_cases h1 : x = y
                                         · exact .inr (fun h2 => hxy ⟨h1, h2⟩)
                                         · exact .inl h1))
        have hd : decide (x = y ∧ p = q) = false := by simp [hxy]
        rw [hd]
        go_wp2
        go_ret
        exact ⟨ret_bool HF.out.symm, HB3.out⟩
    · obtain rfl : k = n := by omega
      have HF := Lib.hid (HAll.out hS.out)
      go_wp2
      go_ret
      exact ⟨ret_bool HF.out.symm, hB.out⟩
theorem same44 (ao bo : Option Addr) (c d : Nat) (a b : List Smp) (hn : a.length ≤ 1048576) (w : World) (ha : SRow w w.heap.size ao a) (hb : SRow w w.heap.size bo b) :
    Calls Try.prog 35 #[.slice ao a.length c, .slice bo b.length d] w fun e w' => e = .returned (.bool (sameS a b)) ∧ Below w.heap.size w w' := by
  have HC := Lib.hid (same88 ao bo c d a b hn w ha hb)
  clear ha hb
  generalize sameS a b = g at HC
  go_enter Try.func35, Try.ntmps35
  go_wp2_with fail
  refine HC.out.mono ?_
  rintro e w1 ⟨rfl, hb1⟩
  have HB1 := Lib.hid hb1
  clear hb1
  go_wp2
  go_ret
  exact ⟨rfl, HB1.out⟩
end Go.Proofs.Ytgjkmcidapfblaa
