/- Contracts of the model: bounds, lists that rise, views and marks that are good; over this seat's translation. -/
import Derived.Test.YtabkjjbhnapgpaaVx
import Derived.Deep.RegionHeld3
import Derived.Deep.QuietTactic
import Derived.BigQuiet
namespace Go.Proofs.Ytabkjjbhnapgpaa
open Go.RowKit Go.Deep Go.ChangeShapes Go.WideShapes Go.ChangeAt

theorem inM (n lo hi : Int) (b : Bool) (hb : (decide (lo ≤ n) && decide (n ≤ hi)) = b) (w : World) : Calls Try.prog 71 #[.int .i64 n, .int .i64 lo, .int .i64 hi] w fun e w' => e = .returned (.bool b) ∧ w = w' := by
  subst hb
  by_cases h1 : lo ≤ n
  · go_enter Try.func71, Try.ntmps71
    go_wp2
    go_ret
    exact ⟨ret_bool (by simp [h1]), rfl⟩
  · go_enter Try.func71, Try.ntmps71
    go_wp2
    go_ret
    exact ⟨ret_bool (by simp; omega), rfl⟩

set_option maxHeartbeats 2000000 in
theorem risingM (lo hi : Int) (ao : Option Addr) (cap : Nat) (l : List Int) (h20 : l.length ≤ 1048576) (w : World) (h : IRow w w.heap.size ao l) :
    Calls Try.prog 72 #[.slice ao l.length cap, .int .i64 lo, .int .i64 hi] w fun e w' => e = .returned (.bool (up lo hi l)) ∧ w = w' := by
  have H := Lib.hid h
  clear h
  go_enter Try.func72, Try.ntmps72
  go_wp2
  go_loop [11] (fun i => ∃ k : Nat, k ≤ l.length ∧ i = .int .i64 k ∧ Hid (upTo lo hi l k)) (fun i => l.length - (intOf i).toNat)
  case atStart => exact ⟨0, Nat.zero_le _, rfl, Lib.hid (fun t ht => by omega)⟩
  case round =>
    obtain ⟨k, hk, rfl, hI⟩ := hrel
    by_cases hlt : k < l.length
    · obtain ⟨b, off, hao, hbl, hc⟩ := H.out.2 (by omega)
      subst hao
      have c1 := hc k hlt
      rw [← at0_get hlt] at c1
      by_cases hin : lo ≤ at0 l k ∧ at0 l k ≤ hi
      case neg =>
        have HG := Lib.hid (up_out (lo := lo) (hi := hi) hlt (by omega))
        have HC := Lib.hid (fun W => inM (at0 l k) lo hi false (by simp; omega) W)
        clear hc hin
        generalize at0 l k = y at c1 HC
        go_wp2_with fail
        refine (HC.out _).mono ?_
        rintro e w1 ⟨rfl, rfl⟩
        go_wp2
        go_ret
        exact ⟨ret_bool HG.out.symm, rfl⟩
      have HC := Lib.hid (fun W => inM (at0 l k) lo hi true (by simp; omega) W)
      cases k with
      | zero =>
        have HI := Lib.hid (upTo_more hI.out hin.1 hin.2 (by omega))
        rw [Nat.add_zero] at c1
        clear hc hin
        generalize at0 l 0 = y at c1 HC
        go_wp2_with fail
        refine (HC.out _).mono ?_
        rintro e w1 ⟨rfl, rfl⟩
        go_wp2
        go_round
        case rel => exact ⟨1, by omega, by go_num, HI⟩
        case measure => simp [intOf]; omega
      | succ j =>
        have c0 := hc j (by omega)
        rw [← at0_get (by omega)] at c0
        clear hc
        by_cases hup : at0 l j < at0 l (j + 1)
        · have HI := Lib.hid (upTo_more hI.out hin.1 hin.2 (fun _ => hup))
          clear hin
          generalize at0 l j = x at c0 hup
          generalize at0 l (j + 1) = y at c1 HC hup
          go_wp2_with fail
          refine (HC.out _).mono ?_
          rintro e w1 ⟨rfl, rfl⟩
          go_wp2
          go_round
          case rel => exact ⟨j + 1 + 1, by omega, by go_num, HI⟩
          case measure => simp [intOf]; omega
        · have HG := Lib.hid (up_flat (lo := lo) (hi := hi) hlt (by omega))
          clear hin
          generalize at0 l j = x at c0 hup
          generalize at0 l (j + 1) = y at c1 HC hup
          go_wp2_with fail
          refine (HC.out _).mono ?_
          rintro e w1 ⟨rfl, rfl⟩
          go_wp2
          go_ret
          exact ⟨ret_bool HG.out.symm, rfl⟩
    · obtain rfl : k = l.length := by omega
      have HG := Lib.hid (up_yes (lo := lo) (hi := hi) (l := l) hI.out)
      go_wp2
      go_ret
      exact ⟨ret_bool HG.out.symm, rfl⟩

theorem goodV_id {last : Int} {v : Vc} (h : v.1 < 0) : goodV last v = false := goodV_no fun g => by have := g.1; omega
theorem goodV_top {last : Int} {v : Vc} (h : ¬ (0 ≤ v.2.1 ∧ v.2.1 ≤ last)) : goodV last v = false := goodV_no fun g => h g.2.1
theorem goodV_len {last : Int} {v : Vc} (h : ¬ v.2.2.length ≤ 8) : goodV last v = false := goodV_no fun g => h g.2.2.1
theorem goodV_up {last : Int} {v : Vc} (h1 : 0 ≤ v.1) (h2 : 0 ≤ v.2.1 ∧ v.2.1 ≤ last) (h3 : v.2.2.length ≤ 8) : goodV last v = up 1 v.2.1 v.2.2 := by
  cases h : up 1 v.2.1 v.2.2 with
  | true => exact goodV_yes ⟨h1, h2, h3, up_is h⟩
  | false => exact goodV_no fun g => by rw [up_yes g.2.2.2] at h; cases h

set_option maxHeartbeats 2000000 in
set_option maxRecDepth 100000 in
theorem viewM (last : Int) (oo ro : Option Addr) (on oc n rc : Nat) (v : Vw) (hn : v.xs.length ≤ 1048576) (w : World) (h : IRow w w.heap.size v.ao v.xs) :
    Calls Try.prog 73 #[.agg #[.int .i64 last, .slice oo on oc, .slice ro n rc], .agg #[.int .i64 v.id, .int .i64 v.top, .slice v.ao v.xs.length v.cap]] w fun e w' => e = .returned (.bool (goodV last v.con)) ∧ Below w.heap.size w w' := by
  have hb0 := ((Below.refl w.heap.size w).alloc (Nat.le_refl _) (.cells #[.int .i64 last, .slice oo on oc, .slice ro n rc] 30)).alloc (by simp) (.cells #[.int .i64 v.id, .int .i64 v.top, .slice v.ao v.xs.length v.cap] 43)
  have HB0 := Lib.hid hb0
  have H0 := Lib.hid (h.below hb0.size hb0)
  clear h hb0
  by_cases h1 : 0 ≤ v.id
  case neg =>
    have HG := Lib.hid (goodV_id (last := last) (v := v.con) (by show v.id < 0; omega))
    have hd : decide (0 ≤ v.id) = false := decide_eq_false h1
    go_enter Try.func73, Try.ntmps73
    go_wp2
    go_ret
    exact ⟨ret_bool HG.out.symm, HB0.out⟩
  have hd : decide (0 ≤ v.id) = true := decide_eq_true h1
  by_cases h2 : 0 ≤ v.top ∧ v.top ≤ last
  case neg =>
    have HG := Lib.hid (goodV_top (last := last) (v := v.con) h2)
    have HC := Lib.hid (fun W => inM v.top 0 last false (by simp; omega) W)
    clear h2
    go_enter Try.func73, Try.ntmps73
    go_wp2_with fail
    refine (HC.out _).mono ?_
    rintro e w1 ⟨rfl, rfl⟩
    go_wp2
    go_ret
    exact ⟨ret_bool HG.out.symm, HB0.out⟩
  have HC := Lib.hid (fun W => inM v.top 0 last true (by simp; omega) W)
  by_cases h3 : v.xs.length ≤ 8
  case neg =>
    have HG := Lib.hid (goodV_len (last := last) (v := v.con) h3)
    have h3d : decide ((v.xs.length : Int) ≤ 8) = false := decide_eq_false (by omega)
    clear h2 h3
    go_enter Try.func73, Try.ntmps73
    go_wp2_with fail
    refine (HC.out _).mono ?_
    rintro e w1 ⟨rfl, rfl⟩
    go_wp2
    go_ret
    exact ⟨ret_bool HG.out.symm, HB0.out⟩
  have h3d : decide ((v.xs.length : Int) ≤ 8) = true := decide_eq_true (by omega)
  have HG := Lib.hid (goodV_up (last := last) (v := v.con) h1 h2 h3)
  have HR := Lib.hid (risingM 1 v.top v.ao v.cap v.xs hn _ H0.out)
  clear h2 h3
  go_enter Try.func73, Try.ntmps73
  go_wp2_with fail
  refine (HC.out _).mono ?_
  rintro e w1 ⟨rfl, rfl⟩
  go_wp2_with fail
  refine HR.out.mono ?_
  rintro e w1 ⟨rfl, rfl⟩
  go_wp2
  go_ret
  exact ⟨ret_bool HG.out.symm, HB0.out⟩
end Go.Proofs.Ytabkjjbhnapgpaa
