/- Contracts of the program: whether numbers that have ended are good, readings and their order; over this seat's translation. -/
import Derived.Test.YtabkjjbhnapgpaaVp
import Derived.Test.YtabkjjbhnapgpaaVx
namespace Go.Proofs.Ytabkjjbhnapgpaa
open Go.RowKit Go.Deep Go.ChangeShapes Go.WideShapes Go.ChangeAt

theorem goodN_lo {last : Int} {l : List Int} (h : last < 0) : goodN last l = false := goodN_no fun g => by have := g.1; omega
theorem goodN_hi {last : Int} {l : List Int} (h : 100000 < last) : goodN last l = false := goodN_no fun g => by have := g.1; omega
theorem goodN_len {last : Int} {l : List Int} (h : ¬ l.length ≤ 8) : goodN last l = false := goodN_no fun g => h g.2.1
theorem goodN_out {last : Int} {l : List Int} {k : Nat} (hk : k < l.length) (h : at0 l k < 1 ∨ last < at0 l k) : goodN last l = false := goodN_no fun g => by have := g.2.2 k hk; omega
theorem goodN_rise {last : Int} {l : List Int} (h1 : 0 ≤ last ∧ last ≤ 100000) (h2 : l.length ≤ 8) (h3 : ∀ k, k < l.length → 1 ≤ at0 l k ∧ at0 l k ≤ last) : goodN last l = riseR l := by
  cases h : riseR l with
  | true => exact goodN_yes ⟨h1, h2, Up.of h3 (riseR_is h)⟩
  | false => exact goodN_no fun g => by rw [riseR_yes g.2.2.rise] at h; cases h

set_option maxHeartbeats 2000000 in
set_option maxRecDepth 100000 in
theorem numsI (last : Int) (ao : Option Addr) (cap : Nat) (l : List Int) (hn : l.length ≤ 1048576) (w : World) (h : IRow w w.heap.size ao l) :
    Calls Try.prog 74 #[.agg #[.int .i64 last, .slice ao l.length cap]] w fun e w' => e = .returned (.bool (goodN last l)) ∧ Below w.heap.size w w' := by
  have hb0 := (Below.refl w.heap.size w).alloc (Nat.le_refl _) (.cells #[.int .i64 last, .slice ao l.length cap] 58)
  have HB0 := Lib.hid hb0
  have HX0 := Lib.hid (Bt.new w (.int .i64 last) (.slice ao l.length cap) 58)
  have H := Lib.hid (h.below hb0.size hb0)
  clear h hb0
  by_cases h1 : last < 0
  · have HG := Lib.hid (goodN_lo (l := l) h1)
    have hd : decide (last < 0) = true := decide_eq_true h1
    go_enter Try.func74, Try.ntmps74
    go_wp2
    go_ret
    exact ⟨ret_bool HG.out.symm, HB0.out⟩
  have hd : decide (last < 0) = false := decide_eq_false h1
  by_cases h2 : 100000 < last
  · have HG := Lib.hid (goodN_hi (l := l) h2)
    have hd2 : decide (100000 < last) = true := decide_eq_true h2
    go_enter Try.func74, Try.ntmps74
    go_wp2
    go_ret
    exact ⟨ret_bool HG.out.symm, HB0.out⟩
  have hd2 : decide (100000 < last) = false := decide_eq_false h2
  by_cases h3 : l.length ≤ 8
  case neg =>
    have HG := Lib.hid (goodN_len (last := last) h3)
    have hd3 : decide (8 < (l.length : Int)) = true := decide_eq_true (by omega)
    go_enter Try.func74, Try.ntmps74
    go_wp2
    go_ret
    exact ⟨ret_bool HG.out.symm, HB0.out⟩
  have hd3 : decide (8 < (l.length : Int)) = false := decide_eq_false (by omega)
  go_enter Try.func74, Try.ntmps74
  go_wp2
  generalize w.alloc (.cells #[.int .i64 last, .slice ao l.length cap] 58) = W at HX0 H HB0 ⊢
  obtain ⟨x0, x1, _⟩ := HX0.out.cells
  go_loop [22] (fun i => ∃ k : Nat, k ≤ l.length ∧ i = .int .i64 k ∧ Hid (∀ t, t < k → 1 ≤ at0 l t ∧ at0 l t ≤ last)) (fun i => l.length - (intOf i).toNat)
  case atStart => exact ⟨0, Nat.zero_le _, rfl, Lib.hid (fun t ht => by omega)⟩
  case round =>
    obtain ⟨k, hk, rfl, hI⟩ := hrel
    by_cases hlt : k < l.length
    · obtain ⟨b, off, hao, hbl, hc⟩ := H.out.2 (by omega)
      subst hao
      have c1 := hc k hlt
      rw [← at0_get hlt] at c1
      clear hc
      by_cases hlo : at0 l k < 1
      · have HG := Lib.hid (goodN_out (last := last) hlt (.inl hlo))
        have hq : decide (at0 l k < 1) = true := decide_eq_true hlo
        generalize at0 l k = y at c1 hlo hq
        go_wp2
        go_ret
        exact ⟨ret_bool HG.out.symm, HB0.out⟩
      have hq : decide (at0 l k < 1) = false := decide_eq_false hlo
      by_cases hhi : last < at0 l k
      · have HG := Lib.hid (goodN_out hlt (.inr hhi))
        have hq2 : decide (last < at0 l k) = true := decide_eq_true hhi
        generalize at0 l k = y at c1 hlo hhi hq hq2
        go_wp2
        go_ret
        exact ⟨ret_bool HG.out.symm, HB0.out⟩
      have hq2 : decide (last < at0 l k) = false := decide_eq_false hhi
      have HI : Hid (∀ t, t < k + 1 → 1 ≤ at0 l t ∧ at0 l t ≤ last) := Lib.hid (fun t ht => by
        by_cases e : t = k
        · subst e; omega
        · exact hI.out t (by omega))
      generalize at0 l k = y at c1 hlo hhi hq hq2
      go_wp2
      go_round
      case rel => exact ⟨k + 1, by omega, by go_num, HI⟩
      case measure => simp [intOf]; omega
    · obtain rfl : k = l.length := by omega
      have HG := Lib.hid (goodN_rise (last := last) ⟨by omega, by omega⟩ h3 hI.out)
      have HC := Lib.hid (fun W hW => isGoodI ao cap l (by omega) W hW)
      clear hI
      go_wp2_with fail
      refine (rrI _ l.length ao cap rfl _).mono ?_
      rintro e w1 ⟨rfl, hb1⟩
      have HB1 := Lib.hid hb1
      clear hb1
      go_wp2_with fail
      refine (HC.out _ (H.out.after HB1.out)).mono ?_
      rintro e w2 ⟨rfl, hb2⟩
      have HB2 := Lib.hid (HB0.out.trans ((HB1.out.trans (hb2.mono HB1.out.size)).mono HB0.out.size))
      clear hb2
      go_wp2
      go_ret
      exact ⟨ret_bool HG.out.symm, HB2.out⟩

theorem readingI (v : Vw) (w : World) : Calls Try.prog 68 #[.agg #[.int .i64 v.id, .int .i64 v.top, .slice v.ao v.xs.length v.cap]] w fun e w' => e = .returned (.agg #[.int .i64 v.top, .slice v.ao v.xs.length v.cap, .int .i64 v.id]) ∧ Below w.heap.size w w' := by
  have HB0 := Lib.hid (((Below.refl w.heap.size w).alloc (Nat.le_refl _) (.cells #[.int .i64 v.id, .int .i64 v.top, .slice v.ao v.xs.length v.cap] 43)).alloc (by simp) (.cells #[.int .i64 v.top, .slice v.ao v.xs.length v.cap, .int .i64 v.id] 85))
  go_enter Try.func68, Try.ntmps68
  go_wp2
  exact bodyPost_ret (v := .agg #[.int .i64 v.top, .slice v.ao v.xs.length v.cap, .int .i64 v.id]) (by simp [results, Try.results68, go_sem]) rfl ⟨rfl, HB0.out⟩

theorem cmpReadI (u v : Vw) (c : Int) (hc : cmpF u.id v.id = c) (w : World) : Calls Try.prog 91 #[.agg #[.int .i64 u.top, .slice u.ao u.xs.length u.cap, .int .i64 u.id], .agg #[.int .i64 v.top, .slice v.ao v.xs.length v.cap, .int .i64 v.id]] w fun e w' => e = .returned (.int .i64 c) ∧ Below w.heap.size w w' := by
  have HB0 := Lib.hid (((Below.refl w.heap.size w).alloc (Nat.le_refl _) (.cells #[.int .i64 u.top, .slice u.ao u.xs.length u.cap, .int .i64 u.id] 85)).alloc (by simp) (.cells #[.int .i64 v.top, .slice v.ao v.xs.length v.cap, .int .i64 v.id] 85))
  have HC := Lib.hid (fun W => cmpI u.id v.id c hc W)
  clear hc
  go_enter Try.func91, Try.ntmps91
  go_wp2_with fail
  refine (HC.out _).mono ?_
  rintro e w1 ⟨rfl, rfl⟩
  go_wp2
  go_ret
  exact ⟨rfl, HB0.out⟩

theorem byIdI (last : Int) (oo ro : Option Addr) (on oc n rc : Nat) (w : World) : Calls Try.prog 83 #[.agg #[.int .i64 last, .slice oo on oc, .slice ro n rc]] w fun e w' => e = .returned (.agg #[.slice ro n rc, .func (.func 91) #[] #[]]) ∧ Below w.heap.size w w' := by
  have HB0 := Lib.hid (((Below.refl w.heap.size w).alloc (Nat.le_refl _) (.cells #[.int .i64 last, .slice oo on oc, .slice ro n rc] 61)).alloc (by simp) (.cells #[.slice ro n rc, .func (.func 91) #[] #[]] 101))
  go_enter Try.func83, Try.ntmps83
  go_wp2
  exact bodyPost_ret (v := .agg #[.slice ro n rc, .func (.func 91) #[] #[]]) (by simp [results, Try.results83, go_sem]) rfl ⟨rfl, HB0.out⟩
end Go.Proofs.Ytabkjjbhnapgpaa
