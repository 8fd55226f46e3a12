/- Contracts of LowMark, SeesId, GoodMarks and what they call, in the model and in the program; over this seat's translation. -/
import Derived.Test.YtabkjjbhnapgpaaVk
import Derived.Test.YtabkjjbhnapgpaaVn
namespace Go.Proofs.Ytabkjjbhnapgpaa
open Go.RowKit Go.Deep Go.ChangeShapes Go.WideShapes Go.ChangeAt

set_option maxHeartbeats 1000000 in
theorem hasM (ao : Option Addr) (cap : Nat) (l : List Int) (x : Int) (hn : l.length ≤ 1048576) (w : World) (h : IRow w w.heap.size ao l) :
    Calls Try.prog 52 #[.slice ao l.length cap, .int .i64 x] w fun e w' => e = .returned (.bool (decide (x ∈ l))) ∧ w = w' := by
  have H := Lib.hid h
  clear h
  go_enter Try.func52, Try.ntmps52
  go_wp2
  go_loop [9] (fun i => ∃ k : Nat, k ≤ l.length ∧ i = .int .i64 k ∧ Hid (∀ t, t < k → at0 l t ≠ x)) (fun i => l.length - (intOf i).toNat)
  case atStart => exact ⟨0, Nat.zero_le _, rfl, Lib.hid (fun t ht => by omega)⟩
  case round =>
    obtain ⟨k, hk, rfl, hI⟩ := hrel
    by_cases hlt : k < l.length
    · obtain ⟨b, off, hao, hbl, hc⟩ := H.out.2 (by omega)
      subst hao
      have c1 := hc k hlt
      have hg := at0_get hlt
      have hm := at0_mem hlt
      rw [← hg] at c1
      have HM := Lib.hid hm
      clear hc hg hm
      by_cases hx : at0 l k = x
      · have HY : Hid (decide (x ∈ l) = true) := Lib.hid (decide_eq_true (hx ▸ HM.out))
        rw [hx] at c1
        clear hx
        go_wp2
        go_ret
        exact ⟨ret_bool HY.out.symm, rfl⟩
      · have HI : Hid (∀ t, t < k + 1 → at0 l t ≠ x) := Lib.hid (fun t ht => by
          by_cases e : t = k
          · subst e; exact hx
          · exact hI.out t (by omega))
        have hne : (at0 l k == x) = false := beq_eq_false_iff_ne.2 hx
        clear hx
        generalize at0 l k = y at c1 hne
        go_wp2
        go_round
        case rel => exact ⟨k + 1, by omega, by go_num, HI⟩
        case measure => simp [intOf]; omega
    · have HN : Hid (decide (x ∈ l) = false) := Lib.hid (decide_eq_false (has_take hI.out (by omega)))
      go_wp2
      go_ret
      exact ⟨ret_bool HN.out.symm, rfl⟩


set_option maxHeartbeats 1000000 in
theorem containsI (ao : Option Addr) (cap : Nat) (l : List Int) (x : Int) (hn : l.length ≤ 1048576) (w : World) (h : IRow w w.heap.size ao l) :
    Calls Try.prog 54 #[.slice ao l.length cap, .int .i64 x] w fun e w' => e = .returned (.bool (decide (x ∈ l))) ∧ w = w' := by
  have H := Lib.hid h
  clear h
  go_enter Try.func54, Try.ntmps54
  go_wp2
  go_loop [8] (fun i => ∃ k : Nat, k ≤ l.length ∧ i = .int .i64 k ∧ Hid (∀ t, t < k → at0 l t ≠ x)) (fun i => l.length - (intOf i).toNat)
  case atStart => exact ⟨0, Nat.zero_le _, rfl, Lib.hid (fun t ht => by omega)⟩
  case round =>
    obtain ⟨k, hk, rfl, hI⟩ := hrel
    by_cases hlt : k < l.length
    · obtain ⟨b, off, hao, hbl, hc⟩ := H.out.2 (by omega)
      subst hao
      have c1 := hc k hlt
      have hg := at0_get hlt
      have hm := at0_mem hlt
      rw [← hg] at c1
      have HM := Lib.hid hm
      clear hc hg hm
      by_cases hx : x = at0 l k
      · have HY : Hid (decide (x ∈ l) = true) := Lib.hid (decide_eq_true (hx ▸ HM.out))
        rw [← hx] at c1
        clear hx
        go_wp2
        go_ret
        exact ⟨ret_bool (by rw [HY.out]), rfl⟩
      · have HI : Hid (∀ t, t < k + 1 → at0 l t ≠ x) := Lib.hid (fun t ht => by
          by_cases e : t = k
          · subst e; exact fun e => hx e.symm
          · exact hI.out t (by omega))
        have hne : (x == at0 l k) = false := beq_eq_false_iff_ne.2 hx
        clear hx
        generalize at0 l k = y at c1 hne
        go_wp2
        go_round
        case rel => exact ⟨k + 1, by omega, by go_num, HI⟩
        case measure => simp [intOf]; omega
    · have HN : Hid (decide (x ∈ l) = false) := Lib.hid (decide_eq_false (has_take hI.out (by omega)))
      go_wp2
      go_ret
      exact ⟨ret_bool (by rw [HN.out]), rfl⟩

theorem sees_lo {top : Int} {hide : List Int} {id : Int} (h : ¬ 1 ≤ id) : seesM top hide id = false := by unfold seesM; rw [decide_eq_false (fun g => h g.1)]; rfl
theorem sees_hi {top : Int} {hide : List Int} {id : Int} (h : ¬ id ≤ top) : seesM top hide id = false := by unfold seesM; rw [decide_eq_false (fun g => h g.2)]; rfl
theorem sees_in {top : Int} {hide : List Int} {id : Int} (h1 : 1 ≤ id) (h2 : id ≤ top) : seesM top hide id = !decide (id ∈ hide) := by unfold seesM; rw [decide_eq_true ⟨h1, h2⟩]; rfl

set_option maxRecDepth 100000 in
theorem hasEndedI (last : Int) (ao : Option Addr) (cap : Nat) (l : List Int) (id : Int) (hn : l.length ≤ 1048576) (w : World) (h : IRow w w.heap.size ao l) :
    Calls Try.prog 69 #[.agg #[.int .i64 last, .slice ao l.length cap], .int .i64 id] w fun e w' => e = .returned (.bool (seesM last l id)) ∧ Below w.heap.size w w' := by
  have HB0 := Lib.hid ((Below.refl w.heap.size w).alloc (Nat.le_refl _) (.cells #[.int .i64 last, .slice ao l.length cap] 58))
  have H := Lib.hid (h.below HB0.out.size HB0.out)
  clear h
  by_cases h1 : 1 ≤ id
  case neg =>
    have HG := Lib.hid (sees_lo (top := last) (hide := l) h1)
    have hd : decide (1 ≤ id) = false := decide_eq_false h1
    go_enter Try.func69, Try.ntmps69
    go_wp2
    go_ret
    exact ⟨ret_bool HG.out.symm, HB0.out⟩
  have hd : decide (1 ≤ id) = true := decide_eq_true h1
  by_cases h2 : id ≤ last
  case neg =>
    have HG := Lib.hid (sees_hi (hide := l) h2)
    have hd2 : decide (id ≤ last) = false := decide_eq_false h2
    go_enter Try.func69, Try.ntmps69
    go_wp2
    go_ret
    exact ⟨ret_bool HG.out.symm, HB0.out⟩
  have hd2 : decide (id ≤ last) = true := decide_eq_true h2
  have HG := Lib.hid (sees_in (hide := l) h1 h2)
  have HC := Lib.hid (containsI ao cap l id hn _ H.out)
  generalize decide (id ∈ l) = q at HG HC
  go_enter Try.func69, Try.ntmps69
  go_wp2_with fail
  refine HC.out.mono ?_
  rintro e w1 ⟨rfl, rfl⟩
  go_wp2
  go_ret
  exact ⟨ret_bool HG.out.symm, HB0.out⟩

theorem fieldEnded (a b c : Value) (w : World) : (Instr.field 85 (.agg #[a, b, c]) 0).run Try.prog w = .ok (.agg #[a, b]) w := by kernel_rfl
set_option maxRecDepth 100000 in
theorem seesI (v : Vw) (id : Int) (hn : v.xs.length ≤ 1048576) (w : World) (h : IRow w w.heap.size v.ao v.xs) :
    Calls Try.prog 34 #[.agg #[.int .i64 v.id, .int .i64 v.top, .slice v.ao v.xs.length v.cap], .int .i64 id] w fun e w' => e = .returned (.bool (seesM v.top v.xs id)) ∧ Below w.heap.size w w' := by
  have HB0 := Lib.hid ((Below.refl w.heap.size w).alloc (Nat.le_refl _) (.cells #[.int .i64 v.id, .int .i64 v.top, .slice v.ao v.xs.length v.cap] 43))
  have H := Lib.hid (h.below HB0.out.size HB0.out)
  have HC := Lib.hid (fun W hW => hasEndedI v.top v.ao v.cap v.xs id hn W hW)
  clear h
  generalize seesM v.top v.xs id = q at HC ⊢
  have hfe := fieldEnded
  go_enter Try.func34, Try.ntmps34
  go_wp2_with fail
  refine (readingI v _).mono ?_
  rintro e w1 ⟨rfl, hb1⟩
  have HB1 := Lib.hid (HB0.out.trans (hb1.mono HB0.out.size))
  have H1 := Lib.hid (H.out.below hb1.size hb1)
  clear hb1
  go_wp2_with fail
  refine (HC.out _ H1.out).mono ?_
  rintro e w2 ⟨rfl, hb2⟩
  have HB2 := Lib.hid (HB1.out.trans (hb2.mono HB1.out.size))
  clear hb2
  go_wp2
  go_ret
  exact ⟨rfl, HB2.out⟩

set_option maxRecDepth 100000 in
theorem sees9M (v : Vw) (id : Int) (hn : v.xs.length ≤ 1048576) (w : World) (h : IRow w w.heap.size v.ao v.xs) :
    Calls Try.prog 67 #[.agg #[.int .i64 v.id, .int .i64 v.top, .slice v.ao v.xs.length v.cap], .int .i64 id] w fun e w' => e = .returned (.bool (seesM v.top v.xs id)) ∧ Below w.heap.size w w' := by
  have HB0 := Lib.hid ((Below.refl w.heap.size w).alloc (Nat.le_refl _) (.cells #[.int .i64 v.id, .int .i64 v.top, .slice v.ao v.xs.length v.cap] 43))
  have H := Lib.hid (h.below HB0.out.size HB0.out)
  clear h
  by_cases h1 : 1 ≤ id ∧ id ≤ v.top
  case neg =>
    have HG := Lib.hid (show seesM v.top v.xs id = false from by unfold seesM; rw [decide_eq_false h1]; rfl)
    have HC := Lib.hid (fun W => inM id 1 v.top false (by simp; omega) W)
    clear h1
    go_enter Try.func67, Try.ntmps67
    go_wp2_with fail
    refine (HC.out _).mono ?_
    rintro e w1 ⟨rfl, rfl⟩
    go_wp2
    go_ret
    exact ⟨ret_bool HG.out.symm, HB0.out⟩
  have HG := Lib.hid (sees_in (hide := v.xs) h1.1 h1.2)
  have HC := Lib.hid (fun W => inM id 1 v.top true (by simp; omega) W)
  have HD := Lib.hid (hasM v.ao v.cap v.xs id hn _ H.out)
  clear h1
  generalize decide (id ∈ v.xs) = q at HG HD
  go_enter Try.func67, Try.ntmps67
  go_wp2_with fail
  refine (HC.out _).mono ?_
  rintro e w1 ⟨rfl, rfl⟩
  go_wp2_with fail
  refine HD.out.mono ?_
  rintro e w1 ⟨rfl, rfl⟩
  go_wp2
  go_ret
  exact ⟨ret_bool HG.out.symm, HB0.out⟩

theorem sees32M (v : Vw) (id : Int) (hn : v.xs.length ≤ 1048576) (w : World) (h : IRow w w.heap.size v.ao v.xs) :
    Calls Try.prog 32 #[.agg #[.int .i64 v.id, .int .i64 v.top, .slice v.ao v.xs.length v.cap], .int .i64 id] w fun e w' => e = .returned (.bool (seesM v.top v.xs id)) ∧ Below w.heap.size w w' := by
  have HB0 := Lib.hid ((Below.refl w.heap.size w).alloc (Nat.le_refl _) (.cells #[.int .i64 v.id, .int .i64 v.top, .slice v.ao v.xs.length v.cap] 43))
  have HC := Lib.hid (sees9M v id hn _ (h.below HB0.out.size HB0.out))
  clear h
  generalize seesM v.top v.xs id = q at HC ⊢
  go_enter Try.func32, Try.ntmps32
  go_wp2_with fail
  refine HC.out.mono ?_
  rintro e w1 ⟨rfl, hb1⟩
  have HB1 := Lib.hid (HB0.out.trans (hb1.mono HB0.out.size))
  clear hb1
  go_wp2
  go_ret
  exact ⟨rfl, HB1.out⟩
end Go.Proofs.Ytabkjjbhnapgpaa
