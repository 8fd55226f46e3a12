/- Contract of the program's search by halves in a list of numbers; over this seat's translation. -/
import Derived.Test.YtabkjjbhnapgpaaVp
namespace Go.Proofs.Ytabkjjbhnapgpaa
open Go.RowKit Go.Deep

set_option maxHeartbeats 2000000 in
set_option maxRecDepth 100000 in
theorem searchI (ao : Option Addr) (cap : Nat) (l : List Int) (x : Int) (hg : upR l) (h20 : l.length ≤ 1048576) (w : World) (h : IRow w w.heap.size ao l) :
    Calls Try.prog 94 #[.slice ao l.length cap, .int .i64 x, .func (.func 82) #[] #[]] w fun e w' => (∃ i : Int, e = .returned (.tuple #[.int .i64 i, .bool (decide (x ∈ l))])) ∧ w = w' := by
  have H := Lib.hid h
  have HG := Lib.hid hg
  clear h hg
  go_enter Try.func94, Try.ntmps94
  go_wp2
  go_loop [9, 10] (fun s9 s10 => ∃ lo hi : Nat, s9 = .int .i64 lo ∧ s10 = .int .i64 hi ∧ lo ≤ hi ∧ hi ≤ l.length ∧ Hid (∀ t, t < lo → at0 l t < x) ∧ Hid (∀ t, hi ≤ t → t < l.length → x ≤ at0 l t)) (fun a b => (intOf b).toNat - (intOf a).toNat)
  case atStart => exact ⟨0, l.length, rfl, rfl, Nat.zero_le _, Nat.le_refl _, Lib.hid (fun t ht => by omega), Lib.hid (fun t h1 h2 => by omega)⟩
  case round =>
    obtain ⟨lo, hi, rfl, rfl, hlh, hin, hL, hR⟩ := hrel
    by_cases hlt : lo < hi
    · obtain ⟨b, off, hao, hbl, hc⟩ := H.out.2 (by omega)
      subst hao
      have hmid : (lo + hi) / 2 < l.length := by omega
      have cm := hc ((lo + hi) / 2) hmid
      rw [← at0_get hmid] at cm
      clear hc
      by_cases hyx : at0 l ((lo + hi) / 2) < x
      · have HL : Hid (∀ t, t < (lo + hi) / 2 + 1 → at0 l t < x) := Lib.hid (fun t ht => by
          by_cases e : t = (lo + hi) / 2
          · rw [e]; exact hyx
          · have := upR_lt HG.out (i := t) (j := (lo + hi) / 2) (by omega) hmid
            omega)
        have hcc := cmpF_lt.2 hyx
        obtain ⟨c, hcq⟩ : ∃ c, cmpF (at0 l ((lo + hi) / 2)) x = c := ⟨_, rfl⟩
        rw [hcq] at hcc
        have HQ := Lib.hid (fun W => cmpI _ _ c hcq W)
        clear hcq hyx
        generalize at0 l ((lo + hi) / 2) = y at cm HQ
        go_wp2_with fail
        refine (HQ.out _).mono ?_
        rintro e w1 ⟨rfl, rfl⟩
        go_wp2
        go_round
        case rel => exact ⟨(lo + hi) / 2 + 1, hi, by go_num, rfl, by omega, hin, HL, hR⟩
        case measure => simp [intOf]; omega
      · have HR : Hid (∀ t, (lo + hi) / 2 ≤ t → t < l.length → x ≤ at0 l t) := Lib.hid (fun t h1 h2 => by
          by_cases e : t = (lo + hi) / 2
          · rw [e]; omega
          · have := upR_lt HG.out (i := (lo + hi) / 2) (j := t) (by omega) h2
            omega)
        have hcc : ¬ cmpF (at0 l ((lo + hi) / 2)) x < 0 := fun e => hyx (cmpF_lt.1 e)
        obtain ⟨c, hcq⟩ : ∃ c, cmpF (at0 l ((lo + hi) / 2)) x = c := ⟨_, rfl⟩
        rw [hcq] at hcc
        have HQ := Lib.hid (fun W => cmpI _ _ c hcq W)
        clear hcq hyx
        generalize at0 l ((lo + hi) / 2) = y at cm HQ
        go_wp2_with fail
        refine (HQ.out _).mono ?_
        rintro e w1 ⟨rfl, rfl⟩
        go_wp2
        go_round
        case rel => exact ⟨lo, (lo + hi) / 2, rfl, by go_num, by omega, by omega, hL, HR⟩
        case measure => simp [intOf]; omega
    · obtain rfl : hi = lo := by omega
      have HM := Lib.hid (srch_at hL.out hR.out HG.out)
      clear hL hR
      by_cases hn : hi < l.length
      · obtain ⟨b, off, hao, hbl, hc⟩ := H.out.2 (by omega)
        subst hao
        have cm := hc hi hn
        rw [← at0_get hn] at cm
        clear hc
        obtain ⟨c, hcq⟩ : ∃ c, cmpF (at0 l hi) x = c := ⟨_, rfl⟩
        have HQ := Lib.hid (fun W => cmpI _ _ c hcq W)
        have HE : Hid (decide (x ∈ l) = (c == 0)) := Lib.hid (by
          rw [Bool.eq_iff_iff, decide_eq_true_eq, beq_iff_eq, HM.out, ← hcq, cmpF_eq]
          exact ⟨fun h => h.2, fun h => ⟨hn, h⟩⟩)
        clear hcq HM
        generalize at0 l hi = y at cm HQ
        go_wp2_with fail
        refine (HQ.out _).mono ?_
        rintro e w1 ⟨rfl, rfl⟩
        go_wp2
        go_ret2
        exact ⟨⟨(hi : Int), by rw [HE.out]; rfl⟩, rfl⟩
      · have HE : Hid (decide (x ∈ l) = false) := Lib.hid (decide_eq_false fun h => hn (HM.out.1 h).1)
        clear HM
        go_wp2
        go_ret2
        exact ⟨⟨(hi : Int), by rw [HE.out]; rfl⟩, rfl⟩
end Go.Proofs.Ytabkjjbhnapgpaa
