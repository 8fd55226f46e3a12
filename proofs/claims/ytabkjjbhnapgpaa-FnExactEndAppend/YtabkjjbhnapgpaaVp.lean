/- Contracts of the program on lists of numbers: the comparison, whether a list rises, the search by halves; over this seat's translation. -/
import Derived.Test.YtabkjjbhnapgpaaLt
import Derived.Test.YtabkjjbhnapgpaaMkMath
import Derived.Deep.Heap
import Derived.Deep.LoopGhost
import Derived.Laws.EntriesVeiled
namespace Go.Proofs.Ytabkjjbhnapgpaa
open Go.RowKit Go.Deep

open Classical in
noncomputable def riseR (l : List Int) : Bool := decide (upR l)
open Classical in
theorem riseR_yes {l : List Int} (h : upR l) : riseR l = true := by unfold riseR; exact decide_eq_true h
open Classical in
theorem riseR_is {l : List Int} (h : riseR l = true) : upR l := by unfold riseR at h; exact of_decide_eq_true h
open Classical in
theorem riseR_no {l : List Int} {k : Nat} (hk : k + 1 < l.length) (h : at0 l (k + 1) ≤ at0 l k) : riseR l = false := by unfold riseR; exact decide_eq_false fun g => by have := g k hk; omega
/-- A block of two cells. -/
def Bt (W : World) (g : Nat) (y0 y1 : Value) : Prop := ∃ t, W.heap[g]? = some (.cells #[y0, y1] t)
theorem Bt.lt {w : World} {g : Nat} {a b : Value} (h : Bt w g a b) : g < w.heap.size := by
  obtain ⟨t, h⟩ := h
  exact (Array.getElem?_eq_some_iff.1 h).1
theorem Bt.below {w w' : World} {g : Nat} {a b : Value} (h : Bt w g a b) (hb : Below w.heap.size w w') : Bt w' g a b := by
  obtain ⟨t, h⟩ := h
  exact ⟨t, (hb.block _ (Array.getElem?_eq_some_iff.1 h).1).trans h⟩
theorem Bt.alloc {w : World} {g : Nat} {a b : Value} (h : Bt w g a b) (o : Obj) : Bt (w.alloc o) g a b := h.below ((Below.refl _ _).alloc (Nat.le_refl _) o)
theorem Bt.new (w : World) (a b : Value) (t : TypeId) : Bt (w.alloc (.cells #[a, b] t)) w.heap.size a b := ⟨t, blk_alloc_new w _⟩
theorem Bt.cells {w : World} {g : Nat} {a b : Value} (h : Bt w g a b) : w.cell? ⟨g, 0, none⟩ = some a ∧ w.cell? ⟨g, 1, none⟩ = some b ∧ w.frozen? ⟨g, 0, none⟩ = false ∧ w.frozen? ⟨g, 1, none⟩ = false := by
  obtain ⟨t, h⟩ := h
  refine ⟨?_, ?_, ?_, ?_⟩ <;> simp [World.cell?, World.frozen?, h]

/-- What the comparison says. -/
def cmpF (a b : Int) : Int := if a < b then -1 else if b < a then 1 else 0
theorem cmpF_lt {a b : Int} : cmpF a b < 0 ↔ a < b := by unfold cmpF; split <;> (try split) <;> omega
theorem cmpF_eq {a b : Int} : cmpF a b = 0 ↔ a = b := by unfold cmpF; split <;> (try split) <;> omega
theorem cmpI (a b c : Int) (hc : cmpF a b = c) (w : World) : Calls Try.prog 82 #[.int .i64 a, .int .i64 b] w fun e w' => e = .returned (.int .i64 c) ∧ w = w' := by
  have ha : (a != a) = false := by simp
  have hb : (b != b) = false := by simp
  rcases Int.lt_trichotomy a b with h | h | h
  · obtain rfl : c = -1 := by rw [← hc]; unfold cmpF; rw [if_pos h]
    clear hc
    go_enter Try.func82, Try.ntmps82
    go_wp2
    go_ret
    exact ⟨rfl, rfl⟩
  · subst h
    obtain rfl : c = 0 := by rw [← hc]; unfold cmpF; rw [if_neg (by omega), if_neg (by omega)]
    clear hc
    go_enter Try.func82, Try.ntmps82
    go_wp2
    go_ret
    exact ⟨rfl, rfl⟩
  · obtain rfl : c = 1 := by rw [← hc]; unfold cmpF; rw [if_neg (by omega), if_pos h]
    clear hc
    go_enter Try.func82, Try.ntmps82
    go_wp2
    go_ret
    exact ⟨rfl, rfl⟩
theorem cmpQ (a b c : Int) (hc : cmpF a b = c) (w : World) : Calls Try.prog 82 #[.int .i64 a, .int .i64 b] w fun e w' => e = .returned (.int .i64 c) ∧ w' = w := (cmpI a b c hc w).mono fun _ _ h => ⟨h.1, h.2.symm⟩

/-- The first k rise. -/
def upK (l : List Int) (k : Nat) : Prop := ∀ t, t + 1 < k → at0 l t < at0 l (t + 1)

set_option maxHeartbeats 2000000 in
set_option maxRecDepth 100000 in
theorem isGoodI (ao : Option Addr) (cap : Nat) (l : List Int) (h20 : l.length ≤ 20) (w : World) (h : IRow w w.heap.size ao l) :
    Calls Try.prog 87 #[.agg #[.slice ao l.length cap, .func (.func 82) #[] #[]]] w fun e w' => e = .returned (.bool (riseR l)) ∧ Below w.heap.size w w' := by
  have HB0 := Lib.hid ((Below.refl w.heap.size w).alloc (Nat.le_refl _) (.cells #[.slice ao l.length cap, .func (.func 82) #[] #[]] 76))
  have HX0 := Lib.hid (Bt.new w (.slice ao l.length cap) (.func (.func 82) #[] #[]) 76)
  have H := Lib.hid (h.after HB0.out)
  clear h
  go_enter Try.func87, Try.ntmps87
  go_wp2
  generalize w.alloc (.cells #[.slice ao l.length cap, .func (.func 82) #[] #[]] 76) = w0 at HB0 HX0 H ⊢
  go_loopw [3] (fun i wr => ∃ k : Nat, 1 ≤ k ∧ (k ≤ l.length ∨ k = 1) ∧ i = .int .i64 k ∧ Hid (upK l k) ∧ Hid (Below w0.heap.size w0 wr)) (fun i _ => 21 - (intOf i).toNat)
  case atStart => exact ⟨1, by omega, .inr rfl, rfl, Lib.hid (fun t ht => by omega), Lib.hid (Below.refl _ _)⟩
  case round =>
    obtain ⟨k, hk1, hkl, rfl, hI, hB⟩ := hrel
    obtain ⟨x0, x1, _⟩ := (HX0.out.below hB.out).cells
    by_cases hlt : k < l.length
    · obtain ⟨b, off, hao, hbl, hc⟩ := H.out.2 (by omega)
      subst hao
      obtain ⟨m, hm⟩ : ∃ m, m + 1 = k := ⟨k - 1, by omega⟩
      have c1 := (hB.out.cell (p := ⟨b, off + k, none⟩) hbl).trans (hc k hlt)
      have c0 := (hB.out.cell (p := ⟨b, off + m, none⟩) hbl).trans (hc m (by omega))
      rw [← at0_get hlt] at c1
      rw [← at0_get (by omega)] at c0
      have hw : IntKind.i64.wrap ((k : Int) - 1) = (m : Int) := by rw [show (k : Int) - 1 = (m : Int) by omega]; exact IntWalk.i64_in _ (by omega)
      have hm0 : (0 : Int) ≤ (m : Int) := by omega
      have hml : (m : Int) < (l.length : Int) := by omega
      have hkl' : (k : Int) < (l.length : Int) := by omega
      have hk0 : (0 : Int) ≤ (k : Int) := by omega
      have hmt : ((m : Int)).toNat = m := by omega
      clear hc hkl
      by_cases hup : at0 l m < at0 l k
      · have HI : Hid (upK l (k + 1)) := Lib.hid (fun t ht => by
          by_cases e : t = m
          · subst e; rw [hm]; exact hup
          · exact hI.out t (by omega))
        have hcc := cmpF_lt.2 hup
        have HC := Lib.hid (fun c hc W => cmpQ (at0 l m) (at0 l k) c hc W)
        obtain ⟨c, hcq⟩ : ∃ c, cmpF (at0 l m) (at0 l k) = c := ⟨_, rfl⟩
        rw [hcq] at hcc
        have HQ := Lib.hid (fun W => HC.out c hcq W)
        have hd : decide (0 ≤ c) = false := decide_eq_false (by omega)
        clear hcq HC hup hm
        generalize at0 l m = x at c0 HQ
        generalize at0 l k = y at c1 HQ
        go_wp2_with fail
        go_quiet ((go_at_call 82; exact Calls.quiet_of_same (HQ.out _)))
        have HD := Lib.hid (below_drewN2 hB.out nq)
        go_wp2
        go_roundw
        case rel => exact ⟨k + 1, by omega, .inl (by omega), by go_num, HI, HD⟩
        case measure => simp [intOf]; omega
      · have HG : Hid (riseR l = false) := Lib.hid (riseR_no (k := m) (by omega) (by rw [hm]; omega))
        have hcc : ¬ cmpF (at0 l m) (at0 l k) < 0 := fun e => hup (cmpF_lt.1 e)
        have HC := Lib.hid (fun c hc W => cmpQ (at0 l m) (at0 l k) c hc W)
        obtain ⟨c, hcq⟩ : ∃ c, cmpF (at0 l m) (at0 l k) = c := ⟨_, rfl⟩
        rw [hcq] at hcc
        have HQ := Lib.hid (fun W => HC.out c hcq W)
        have hd : decide (0 ≤ c) = true := decide_eq_true (by omega)
        have hc0 : 0 ≤ c := by omega
        clear hcq HC hup hm hcc
        generalize at0 l m = x at c0 HQ
        generalize at0 l k = y at c1 HQ
        go_wp2_with fail
        go_quiet ((go_at_call 82; exact Calls.quiet_of_same (HQ.out _)))
        have HD := Lib.hid (HB0.out.trans ((below_drewN2 hB.out nq).mono HB0.out.size))
        go_wp2
        go_ret
        exact ⟨ret_bool HG.out.symm, HD.out⟩
    · have HG : Hid (riseR l = true) := Lib.hid (riseR_yes fun t ht => hI.out t (by omega))
      have HD := Lib.hid (HB0.out.trans (hB.out.mono HB0.out.size))
      go_wp2
      go_ret
      exact ⟨ret_bool HG.out.symm, HD.out⟩

theorem rrI (v : Value) (n : Nat) (ao : Option Addr) (cap : Nat) (hv : v = .slice ao n cap) (w : World) :
    Calls Try.prog 56 #[v] w fun e w' => e = .returned (.agg #[v, .func (.func 82) #[] #[]]) ∧ Below w.heap.size w w' := by
  subst hv
  go_enter Try.func56, Try.ntmps56
  go_wp2
  refine bodyPost_ret (v := .agg #[.slice ao n cap, .func (.func 82) #[] #[]]) (by simp [results, Try.results56, go_sem]) rfl ⟨rfl, ?_⟩
  exact ((Below.refl w.heap.size w).alloc (Nat.le_refl _) _)

end Go.Proofs.Ytabkjjbhnapgpaa
