/- Contracts of what the exact laws do with views: sizes, copies, whether two are the same; over this seat's translation. -/
import Derived.Test.YtabkjjbhnapgpaaVl
import Derived.Test.YtabkjjbhnapgpaaRi
import Derived.Deep.RegionHeld3
namespace Go.Proofs.Ytabkjjbhnapgpaa
open Go.RowKit Go.Deep Go.ChangeShapes Go.WideShapes Go.ChangeAt

/-- How many numbers the first k views hide. -/
def sumV (g : Nat → Vw) : Nat → Nat
  | 0 => 0
  | k + 1 => sumV g k + (g k).xs.length
theorem sumV_mono (g : Nat → Vw) : ∀ {k n : Nat}, k ≤ n → sumV g k ≤ sumV g n
  | k, 0, h => by obtain rfl : k = 0 := by omega
                  exact Nat.le_refl _
  | k, n + 1, h => by
    by_cases e : k = n + 1
    · subst e; exact Nat.le_refl _
    · have := sumV_mono g (k := k) (n := n) (by omega)
      show _ ≤ sumV g n + _
      omega
theorem sumV_one (g : Nat → Vw) {k n : Nat} (hk : k < n) : (g k).xs.length ≤ sumV g n := by
  have := sumV_mono g (k := k + 1) (n := n) hk
  have e : sumV g (k + 1) = sumV g k + (g k).xs.length := rfl
  omega
theorem cntV_sum (g : Nat → Vw) : ∀ n, cntV g n = 2 * n + sumV g n
  | 0 => rfl
  | n + 1 => by
    have := cntV_sum g n
    show cntV g n + _ = _ + (sumV g n + _)
    omega
theorem sumV_congr {g g' : Nat → Vw} : ∀ {n : Nat}, (∀ k, k < n → (g k).con = (g' k).con) → sumV g n = sumV g' n
  | 0, _ => rfl
  | n + 1, h => by
    have h1 := sumV_congr (g := g) (g' := g') (n := n) fun k hk => h k (by omega)
    have h2 : (g n).xs = (g' n).xs := congrArg (fun c : Vc => c.2.2) (h n (by omega))
    show sumV g n + _ = sumV g' n + _
    rw [h1, h2]

/-- What a size comes to: too much, or what is left. -/
def SzEnd (left : Int) (tot : Nat) (e : Ending) : Prop := e = .returned (.int .i64 (-1)) ∨ ∃ r : Int, 0 ≤ r ∧ r + (tot : Int) = left ∧ e = .returned (.int .i64 r)

theorem szI (ao : Option Addr) (c n : Nat) (left : Int) (hn : n ≤ maxLen) (h0 : 0 ≤ left) (h1 : left ≤ 1048576) (w : World) :
    Calls Try.prog 37 #[.slice ao n c, .int .i64 left] w fun e w' => SzEnd left n e ∧ w = w' := by
  unfold maxLen at hn
  by_cases hlt : (n : Int) ≤ left
  · have hw : ¬ left - (n : Int) < 0 := by omega
    have HS : Hid (∃ r : Int, 0 ≤ r ∧ r + (n : Int) = left ∧ (.returned (.int .i64 (left - (n : Int))) : Ending) = .returned (.int .i64 r)) := Lib.hid ⟨left - (n : Int), by omega, by omega, rfl⟩
    go_enter Try.func37, Try.ntmps37
    go_wp2
    go_ret
    exact ⟨.inr HS.out, rfl⟩
  · have hw : left - (n : Int) < 0 := by omega
    go_enter Try.func37, Try.ntmps37
    go_wp2
    go_ret
    exact ⟨.inl rfl, rfl⟩

theorem szV (v : Vw) (left : Int) (hn : v.xs.length ≤ maxLen) (h0 : 0 ≤ left) (h1 : left ≤ 1048576) (w : World) :
    Calls Try.prog 31 #[.agg #[.int .i64 v.id, .int .i64 v.top, .slice v.ao v.xs.length v.cap], .int .i64 left] w fun e w' => SzEnd left v.xs.length e ∧ Below w.heap.size w w' := by
  have HC := Lib.hid (fun W => szI v.ao v.cap v.xs.length left hn h0 h1 W)
  have HB0 := Lib.hid ((Below.refl w.heap.size w).alloc (Nat.le_refl _) (.cells #[.int .i64 v.id, .int .i64 v.top, .slice v.ao v.xs.length v.cap] 48))
  clear hn h0 h1
  go_enter Try.func31, Try.ntmps31
  go_wp2_with fail
  refine (HC.out _).mono ?_
  rintro e w1 ⟨rfl | ⟨r, hr0, hr, rfl⟩, rfl⟩
  · go_wp2
    go_ret
    exact ⟨.inl rfl, HB0.out⟩
  · have HR := Lib.hid hr
    have hr1 : ¬ r < 0 := by omega
    clear hr
    go_wp2
    go_ret
    exact ⟨.inr ⟨r, hr0, HR.out, rfl⟩, HB0.out⟩

set_option maxHeartbeats 2000000 in
set_option maxRecDepth 100000 in
theorem szVS (ao : Option Addr) (c n : Nat) (g : Nat → Vw) (left : Int) (hn : n ≤ maxLen) (hm : ∀ k, k < n → (g k).xs.length ≤ maxLen) (h0 : 0 ≤ left) (h1 : left ≤ 1048576) (w : World) (h : VF vC w w.heap.size ao n g) :
    Calls Try.prog 38 #[.slice ao n c, .int .i64 left] w fun e w' => SzEnd left (n + sumV g n) e ∧ Below w.heap.size w w' := by
  have H := Lib.hid h
  have HM := Lib.hid hm
  have hn' := hn
  unfold maxLen at hn'
  clear h hm hn
  by_cases hlt : (n : Int) ≤ left
  case neg =>
    have hw : left - (n : Int) < 0 := by omega
    go_enter Try.func38, Try.ntmps38
    go_wp2
    go_ret
    exact ⟨.inl rfl, Below.refl _ _⟩
  obtain ⟨l0, hl0⟩ : ∃ l0 : Int, left - (n : Int) = l0 := ⟨_, rfl⟩
  have hw : ¬ l0 < 0 := by omega
  have hw2 : IntKind.i64.wrap (left - (n : Int)) = l0 := by rw [hl0]; exact IntWalk.i64_in _ (by omega)
  have hl1 : l0 ≤ 1048576 := by omega
  have HL := Lib.hid hl0
  have hnn : n ≤ 1048576 := by omega
  clear hlt hn' h0 h1 hl0
  go_enter Try.func38, Try.ntmps38
  go_wp2
  go_loopw [1, 5] (fun q i wr => ∃ (k : Nat) (r : Int), k ≤ n ∧ i = .int .i64 k ∧ q = .int .i64 r ∧ 0 ≤ r ∧ r ≤ 1048576 ∧ Hid (r + (sumV g k : Int) = l0) ∧ Hid (Below w.heap.size w wr)) (fun _ i _ => n - (intOf i).toNat)
  case atStart => exact ⟨0, l0, Nat.zero_le _, rfl, by first | rfl | (have := HL.out; go_num), by omega, hl1, Lib.hid (by show l0 + ((0 : Nat) : Int) = l0; omega), Lib.hid (Below.refl _ _)⟩
  case round =>
    obtain ⟨k, r, hk, rfl, rfl, hr0, hr1, hS, hB⟩ := hrel
    by_cases hlt : k < n
    · obtain ⟨b, off, hao, hbl, c0, c1, c2⟩ := (H.out.after hB.out).oneV hlt
      subst hao
      have HC := Lib.hid (fun W => szV (g k) r (HM.out k hlt) hr0 hr1 W)
      have HSt := Lib.hid (fun r' (h : r' + ((g k).xs.length : Int) = r) => show r' + (sumV g (k + 1) : Int) = l0 from by
        have h2 := hS.out
        show r' + ((sumV g k + (g k).xs.length : Nat) : Int) = l0
        omega)
      generalize g k = v at c0 c1 c2 HC HSt
      go_wp2_with fail
      refine (HC.out _).mono ?_
      rintro e w1 ⟨rfl | ⟨r', hr0', hr', rfl⟩, hb1⟩
      · have HB1 := Lib.hid (hB.out.trans (hb1.mono hB.out.size))
        clear hb1
        go_wp2
        go_ret
        exact ⟨.inl rfl, HB1.out⟩
      · have HB1 := Lib.hid (hB.out.trans (hb1.mono hB.out.size))
        have HS1 := Lib.hid (HSt.out r' hr')
        have hr2 : ¬ r' < 0 := by omega
        have hr3 : r' ≤ 1048576 := by omega
        clear hb1 hr' HSt
        go_wp2
        go_roundw
        case rel => exact ⟨k + 1, r', by omega, by go_num, rfl, hr0', hr3, HS1, HB1⟩
        case measure => simp [intOf]; omega
    · obtain rfl : k = n := by omega
      have HE : Hid (r + ((k + sumV g k : Nat) : Int) = left) := Lib.hid (by have := hS.out; have := HL.out; omega)
      go_wp2
      go_ret
      exact ⟨.inr ⟨r, hr0, HE.out, rfl⟩, hB.out⟩
end Go.Proofs.Ytabkjjbhnapgpaa
