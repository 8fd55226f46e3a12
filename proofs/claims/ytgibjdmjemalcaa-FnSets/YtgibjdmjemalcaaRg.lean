/- Contracts of lists of references in the program: the comparison, whether a list rises, whether references are good, the search by halves; over this seat's translation. -/
import Derived.Test.YtgibjdmjemalcaaRe
import Derived.Deep.Heap
import Derived.Deep.LoopGhost
import Derived.Laws.EntriesVeiled
namespace Go.Proofs.Ytgibjdmjemalcaa
open Go.RowKit Go.Deep

/-- A block of two cells. -/
def Bt (W : World) (g : Nat) (y0 y1 : Value) : Prop := ∃ t, W.heap[g]? = some (.cells #[y0, y1] t)
theorem Bt.lt {w : World} {g : Nat} {a b : Value} (h : Bt w g a b) : g < w.heap.size := by
  obtain ⟨t, h⟩ := h
  exact (Array.getElem?_eq_some_iff.1 h).1
theorem Bt.below {w w' : World} {g : Nat} {a b : Value} (h : Bt w g a b) (hb : Below w.heap.size w w') : Bt w' g a b := by
  obtain ⟨t, h⟩ := h
  exact ⟨t, (hb.block _ (Array.getElem?_eq_some_iff.1 h).1).trans h⟩
theorem Bt.alloc {w : World} {g : Nat} {a b : Value} (h : Bt w g a b) (o : Obj) : Bt (w.alloc o) g a b := h.below ((Below.refl _ _).alloc (Nat.le_refl _) o)
theorem Bt.new (w : World) (a b : Value) (t : TypeId) : Bt (w.alloc (.cells #[a, b] t)) w.heap.size a b := ⟨t, blk_alloc_new w _⟩
theorem Bt.cells {w : World} {g : Nat} {a b : Value} (h : Bt w g a b) : w.cell? ⟨g, 0, none⟩ = some a ∧ w.cell? ⟨g, 1, none⟩ = some b ∧ w.frozen? ⟨g, 0, none⟩ = false ∧ w.frozen? ⟨g, 1, none⟩ = false := by
  obtain ⟨t, h⟩ := h
  refine ⟨?_, ?_, ?_, ?_⟩ <;> simp [World.cell?, World.frozen?, h]

/-- What the comparison says. -/
def cmpF (a b : Int) : Int := if a < b then -1 else if b < a then 1 else 0
theorem cmpF_lt {a b : Int} : cmpF a b < 0 ↔ a < b := by unfold cmpF; split <;> (try split) <;> omega
theorem cmpF_eq {a b : Int} : cmpF a b = 0 ↔ a = b := by unfold cmpF; split <;> (try split) <;> omega
theorem cmpI (a b c : Int) (hc : cmpF a b = c) (w : World) : Calls Try.prog 37 #[.int .i64 a, .int .i64 b] w fun e w' => e = .returned (.int .i64 c) ∧ w = w' := by
  have ha : (a != a) = false := by simp
  have hb : (b != b) = false := by simp
  rcases Int.lt_trichotomy a b with h | h | h
  · obtain rfl : c = -1 := by rw [← hc]; unfold cmpF; rw [if_pos h]
    clear hc
    go_enter Try.func37, Try.ntmps37
    go_wp2
    go_ret
    exact ⟨rfl, rfl⟩
  · subst h
    obtain rfl : c = 0 := by rw [← hc]; unfold cmpF; rw [if_neg (by omega), if_neg (by omega)]
    clear hc
    go_enter Try.func37, Try.ntmps37
    go_wp2
    go_ret
    exact ⟨rfl, rfl⟩
  · obtain rfl : c = 1 := by rw [← hc]; unfold cmpF; rw [if_neg (by omega), if_pos h]
    clear hc
    go_enter Try.func37, Try.ntmps37
    go_wp2
    go_ret
    exact ⟨rfl, rfl⟩
theorem cmpQ (a b c : Int) (hc : cmpF a b = c) (w : World) : Calls Try.prog 37 #[.int .i64 a, .int .i64 b] w fun e w' => e = .returned (.int .i64 c) ∧ w' = w := (cmpI a b c hc w).mono fun _ _ h => ⟨h.1, h.2.symm⟩

/-- The first k rise. -/
def upK (l : List Int) (k : Nat) : Prop := ∀ t, t + 1 < k → at0 l t < at0 l (t + 1)

set_option maxHeartbeats 2000000 in
set_option maxRecDepth 100000 in
theorem isGoodI (ao : Option Addr) (cap : Nat) (l : List Int) (h20 : l.length ≤ 20) (hin : inR l) (w : World) (h : IRow w w.heap.size ao l) :
    Calls Try.prog 36 #[.agg #[.slice ao l.length cap, .func (.func 37) #[] #[]]] w fun e w' => e = .returned (.bool (goodR l)) ∧ Below w.heap.size w w' := by
  have HB0 := Lib.hid ((Below.refl w.heap.size w).alloc (Nat.le_refl _) (.cells #[.slice ao l.length cap, .func (.func 37) #[] #[]] 46))
  have HX0 := Lib.hid (Bt.new w (.slice ao l.length cap) (.func (.func 37) #[] #[]) 46)
  have H := Lib.hid (h.after HB0.out)
  have HIn := Lib.hid hin
  clear h hin
  go_enter Try.func36, Try.ntmps36
  go_wp2
  generalize w.alloc (.cells #[.slice ao l.length cap, .func (.func 37) #[] #[]] 46) = w0 at HB0 HX0 H ⊢
  go_loopw [3] (fun i wr => ∃ k : Nat, 1 ≤ k ∧ (k ≤ l.length ∨ k = 1) ∧ i = .int .i64 k ∧ Hid (upK l k) ∧ Hid (Below w0.heap.size w0 wr)) (fun i _ => 21 - (intOf i).toNat)
  case atStart => exact ⟨1, by omega, .inr rfl, rfl, Lib.hid (fun t ht => by omega), Lib.hid (Below.refl _ _)⟩
  case round =>
    obtain ⟨k, hk1, hkl, rfl, hI, hB⟩ := hrel
    obtain ⟨x0, x1, _⟩ := (HX0.out.below hB.out).cells
    by_cases hlt : k < l.length
    · obtain ⟨b, off, hao, hbl, hc⟩ := H.out.2 (by omega)
      subst hao
      obtain ⟨m, hm⟩ : ∃ m, m + 1 = k := ⟨k - 1, by omega⟩
      have c1 := (hB.out.cell (p := ⟨b, off + k, none⟩) hbl).trans (hc k hlt)
      have c0 := (hB.out.cell (p := ⟨b, off + m, none⟩) hbl).trans (hc m (by omega))
      rw [← at0_get hlt] at c1
      rw [← at0_get (by omega)] at c0
      have hw : IntKind.i64.wrap ((k : Int) - 1) = (m : Int) := by rw [show (k : Int) - 1 = (m : Int) by omega]; exact IntWalk.i64_in _ (by omega)
      have hm0 : (0 : Int) ≤ (m : Int) := by omega
      have hml : (m : Int) < (l.length : Int) := by omega
      have hkl' : (k : Int) < (l.length : Int) := by omega
      have hk0 : (0 : Int) ≤ (k : Int) := by omega
      have hmt : ((m : Int)).toNat = m := by omega
      clear hc hkl
      by_cases hup : at0 l m < at0 l k
      · have HI : Hid (upK l (k + 1)) := Lib.hid (fun t ht => by
          by_cases e : t = m
          · subst e; rw [hm]; exact hup
          · exact hI.out t (by omega))
        have hcc := cmpF_lt.2 hup
        have HC := Lib.hid (fun c hc W => cmpQ (at0 l m) (at0 l k) c hc W)
        obtain ⟨c, hcq⟩ : ∃ c, cmpF (at0 l m) (at0 l k) = c := ⟨_, rfl⟩
        rw [hcq] at hcc
        have HQ := Lib.hid (fun W => HC.out c hcq W)
        have hd : decide (0 ≤ c) = false := decide_eq_false (by omega)
        clear hcq HC hup hm
        generalize at0 l m = x at c0 HQ
        generalize at0 l k = y at c1 HQ
        go_wp2_with fail
        go_quiet ((go_at_call 37; exact Calls.quiet_of_same (HQ.out _)))
        have HD := Lib.hid (below_drewN2 hB.out nq)
        go_wp2
        go_roundw
        case rel => exact ⟨k + 1, by omega, .inl (by omega), by go_num, HI, HD⟩
        case measure => simp [intOf]; omega
      · have HG : Hid (goodR l = false) := Lib.hid (goodR_flat (k := m) (by omega) (by rw [hm]; omega))
        have hcc : ¬ cmpF (at0 l m) (at0 l k) < 0 := fun e => hup (cmpF_lt.1 e)
        have HC := Lib.hid (fun c hc W => cmpQ (at0 l m) (at0 l k) c hc W)
        obtain ⟨c, hcq⟩ : ∃ c, cmpF (at0 l m) (at0 l k) = c := ⟨_, rfl⟩
        rw [hcq] at hcc
        have HQ := Lib.hid (fun W => HC.out c hcq W)
        have hd : decide (0 ≤ c) = true := decide_eq_true (by omega)
        have hc0 : 0 ≤ c := by omega
        clear hcq HC hup hm hcc
        generalize at0 l m = x at c0 HQ
        generalize at0 l k = y at c1 HQ
        go_wp2_with fail
        go_quiet ((go_at_call 37; exact Calls.quiet_of_same (HQ.out _)))
        have HD := Lib.hid (HB0.out.trans ((below_drewN2 hB.out nq).mono HB0.out.size))
        go_wp2
        go_ret
        exact ⟨ret_bool HG.out.symm, HD.out⟩
    · have HG : Hid (goodR l = true) := Lib.hid (goodR_yes ⟨h20, HIn.out, fun t ht => hI.out t (by omega)⟩)
      have HD := Lib.hid (HB0.out.trans (hB.out.mono HB0.out.size))
      go_wp2
      go_ret
      exact ⟨ret_bool HG.out.symm, HD.out⟩

theorem rrI (v : Value) (n : Nat) (ao : Option Addr) (cap : Nat) (hv : v = .slice ao n cap) (w : World) :
    Calls Try.prog 29 #[v] w fun e w' => e = .returned (.agg #[v, .func (.func 37) #[] #[]]) ∧ Below w.heap.size w w' := by
  subst hv
  go_enter Try.func29, Try.ntmps29
  go_wp2
  refine bodyPost_ret (v := .agg #[.slice ao n cap, .func (.func 37) #[] #[]]) (by simp [results, Try.results29, go_sem]) rfl ⟨rfl, ?_⟩
  exact ((Below.refl w.heap.size w).alloc (Nat.le_refl _) _)

set_option maxHeartbeats 2000000 in
set_option maxRecDepth 100000 in
theorem goodRefsI (ao : Option Addr) (cap : Nat) (l : List Int) (hn : l.length ≤ 1048576) (w : World) (h : IRow w w.heap.size ao l) :
    Calls Try.prog 28 #[.slice ao l.length cap] w fun e w' => e = .returned (.bool (goodR l)) ∧ Below w.heap.size w w' := by
  have H := Lib.hid h
  clear h
  by_cases h20 : l.length ≤ 20
  case neg =>
    have HG := Lib.hid (goodR_len h20)
    go_enter Try.func28, Try.ntmps28
    go_wp2
    go_ret
    exact ⟨ret_bool HG.out.symm, Below.refl _ _⟩
  go_enter Try.func28, Try.ntmps28
  go_wp2
  go_loop [10] (fun i => ∃ k : Nat, k ≤ l.length ∧ i = .int .i64 k ∧ Hid (∀ t, t < k → 0 ≤ at0 l t ∧ at0 l t ≤ 999)) (fun i => l.length - (intOf i).toNat)
  case atStart => exact ⟨0, Nat.zero_le _, rfl, Lib.hid (fun t ht => by omega)⟩
  case round =>
    obtain ⟨k, hk, rfl, hI⟩ := hrel
    by_cases hlt : k < l.length
    · obtain ⟨b, off, hao, hbl, hc⟩ := H.out.2 (by omega)
      subst hao
      have c1 := hc k hlt
      rw [← at0_get hlt] at c1
      clear hc
      by_cases hlo : at0 l k < 0
      · have HG := Lib.hid (goodR_out hlt (.inl hlo))
        generalize at0 l k = y at c1 hlo
        go_wp2
        go_ret
        exact ⟨ret_bool HG.out.symm, Below.refl _ _⟩
      by_cases hhi : 999 < at0 l k
      · have HG := Lib.hid (goodR_out hlt (.inr hhi))
        generalize at0 l k = y at c1 hlo hhi
        go_wp2
        go_ret
        exact ⟨ret_bool HG.out.symm, Below.refl _ _⟩
      have HI : Hid (∀ t, t < k + 1 → 0 ≤ at0 l t ∧ at0 l t ≤ 999) := Lib.hid (fun t ht => by
        by_cases e : t = k
        · subst e; omega
        · exact hI.out t (by omega))
      generalize at0 l k = y at c1 hlo hhi
      go_wp2
      go_round
      case rel => exact ⟨k + 1, by omega, by go_num, HI⟩
      case measure => simp [intOf]; omega
    · obtain rfl : k = l.length := by omega
      have HC := Lib.hid (fun W hW => isGoodI ao cap l h20 hI.out W hW)
      clear hI
      go_wp2_with fail
      refine (rrI _ l.length ao cap rfl _).mono ?_
      rintro e w1 ⟨rfl, hb1⟩
      have HB1 := Lib.hid hb1
      clear hb1
      go_wp2_with fail
      refine (HC.out _ (H.out.after HB1.out)).mono ?_
      rintro e w2 ⟨rfl, hb2⟩
      have HB2 := Lib.hid (HB1.out.trans (hb2.mono HB1.out.size))
      clear hb2
      go_wp2
      go_ret
      exact ⟨rfl, HB2.out⟩

set_option maxHeartbeats 2000000 in
set_option maxRecDepth 100000 in
theorem searchI (ao : Option Addr) (cap : Nat) (l : List Int) (x : Int) (hg : GoodR l) (w : World) (h : IRow w w.heap.size ao l) :
    Calls Try.prog 44 #[.slice ao l.length cap, .int .i64 x, .func (.func 37) #[] #[]] w fun e w' => (∃ i : Int, e = .returned (.tuple #[.int .i64 i, .bool (decide (x ∈ l))])) ∧ w = w' := by
  have H := Lib.hid h
  have HG := Lib.hid hg
  have h20 := hg.1
  clear h hg
  go_enter Try.func44, Try.ntmps44
  go_wp2
  go_loop [9, 10] (fun s9 s10 => ∃ lo hi : Nat, s9 = .int .i64 lo ∧ s10 = .int .i64 hi ∧ lo ≤ hi ∧ hi ≤ l.length ∧ Hid (∀ t, t < lo → at0 l t < x) ∧ Hid (∀ t, hi ≤ t → t < l.length → x ≤ at0 l t)) (fun a b => (intOf b).toNat - (intOf a).toNat)
  case atStart => exact ⟨0, l.length, rfl, rfl, Nat.zero_le _, Nat.le_refl _, Lib.hid (fun t ht => by omega), Lib.hid (fun t h1 h2 => by omega)⟩
  case round =>
    obtain ⟨lo, hi, rfl, rfl, hlh, hin, hL, hR⟩ := hrel
    by_cases hlt : lo < hi
    · obtain ⟨b, off, hao, hbl, hc⟩ := H.out.2 (by omega)
      subst hao
      have hmid : (lo + hi) / 2 < l.length := by omega
      have cm := hc ((lo + hi) / 2) hmid
      rw [← at0_get hmid] at cm
      clear hc
      by_cases hyx : at0 l ((lo + hi) / 2) < x
      · have HL : Hid (∀ t, t < (lo + hi) / 2 + 1 → at0 l t < x) := Lib.hid (fun t ht => by
          by_cases e : t = (lo + hi) / 2
          · rw [e]; exact hyx
          · have := upR_lt HG.out.2.2 (i := t) (j := (lo + hi) / 2) (by omega) hmid
            omega)
        have hcc := cmpF_lt.2 hyx
        obtain ⟨c, hcq⟩ : ∃ c, cmpF (at0 l ((lo + hi) / 2)) x = c := ⟨_, rfl⟩
        rw [hcq] at hcc
        have HQ := Lib.hid (fun W => cmpI _ _ c hcq W)
        clear hcq hyx
        generalize at0 l ((lo + hi) / 2) = y at cm HQ
        go_wp2_with fail
        refine (HQ.out _).mono ?_
        rintro e w1 ⟨rfl, rfl⟩
        go_wp2
        go_round
        case rel => exact ⟨(lo + hi) / 2 + 1, hi, by go_num, rfl, by omega, hin, HL, hR⟩
        case measure => simp [intOf]; omega
      · have HR : Hid (∀ t, (lo + hi) / 2 ≤ t → t < l.length → x ≤ at0 l t) := Lib.hid (fun t h1 h2 => by
          by_cases e : t = (lo + hi) / 2
          · rw [e]; omega
          · have := upR_lt HG.out.2.2 (i := (lo + hi) / 2) (j := t) (by omega) h2
            omega)
        have hcc : ¬ cmpF (at0 l ((lo + hi) / 2)) x < 0 := fun e => hyx (cmpF_lt.1 e)
        obtain ⟨c, hcq⟩ : ∃ c, cmpF (at0 l ((lo + hi) / 2)) x = c := ⟨_, rfl⟩
        rw [hcq] at hcc
        have HQ := Lib.hid (fun W => cmpI _ _ c hcq W)
        clear hcq hyx
        generalize at0 l ((lo + hi) / 2) = y at cm HQ
        go_wp2_with fail
        refine (HQ.out _).mono ?_
        rintro e w1 ⟨rfl, rfl⟩
        go_wp2
        go_round
        case rel => exact ⟨lo, (lo + hi) / 2, rfl, by go_num, by omega, by omega, hL, HR⟩
        case measure => simp [intOf]; omega
    · obtain rfl : hi = lo := by omega
      have HM := Lib.hid (srch_at hL.out hR.out HG.out.2.2)
      clear hL hR
      by_cases hn : hi < l.length
      · obtain ⟨b, off, hao, hbl, hc⟩ := H.out.2 (by omega)
        subst hao
        have cm := hc hi hn
        rw [← at0_get hn] at cm
        clear hc
        obtain ⟨c, hcq⟩ : ∃ c, cmpF (at0 l hi) x = c := ⟨_, rfl⟩
        have HQ := Lib.hid (fun W => cmpI _ _ c hcq W)
        have HE : Hid (decide (x ∈ l) = (c == 0)) := Lib.hid (by
          rw [Bool.eq_iff_iff, decide_eq_true_eq, beq_iff_eq, HM.out, ← hcq, cmpF_eq]
          exact ⟨fun h => h.2, fun h => ⟨hn, h⟩⟩)
        clear hcq HM
        generalize at0 l hi = y at cm HQ
        go_wp2_with fail
        refine (HQ.out _).mono ?_
        rintro e w1 ⟨rfl, rfl⟩
        go_wp2
        go_ret2
        exact ⟨⟨(hi : Int), by rw [HE.out]; rfl⟩, rfl⟩
      · have HE : Hid (decide (x ∈ l) = false) := Lib.hid (decide_eq_false fun h => hn (HM.out.1 h).1)
        clear HM
        go_wp2
        go_ret2
        exact ⟨⟨(hi : Int), by rw [HE.out]; rfl⟩, rfl⟩
end Go.Proofs.Ytgibjdmjemalcaa
