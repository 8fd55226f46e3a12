/- The contracts by content: what the laws do with marks, GoodMarks, LowMark; over this seat's translation. -/
import Derived.Test.YtabkjjbhnapgpaaKb
import Derived.Test.YtabkjjbhnapgpaaVz
namespace Go.Proofs.Ytabkjjbhnapgpaa
open Go.RowKit Go.Deep Go.ChangeShapes Go.WideShapes Go.ChangeAt

/-- Views that are not too many. -/
def SmallC (cs : List Vc) : Prop := cs.length ≤ 1048576 ∧ ∀ k, k < cs.length → (vat cs k).2.2.length ≤ 1048576
theorem small_of {n : Nat} {g : Nat → Vw} (h1 : n ≤ 1048576) (h2 : ∀ k, k < n → (g k).xs.length ≤ 1048576) : SmallC (conL n g) :=
  ⟨by rw [conL_len]; exact h1, fun k hk => by rw [conL_len] at hk; rw [conL_at hk]; exact h2 k hk⟩
theorem small_n {n : Nat} {g : Nat → Vw} (h : SmallC (conL n g)) : n ≤ 1048576 := by have := h.1; rwa [conL_len] at this
theorem small_m {n : Nat} {g : Nat → Vw} (h : SmallC (conL n g)) : ∀ k, k < n → (g k).xs.length ≤ 1048576 := fun k hk => by
  have := h.2 k (by rw [conL_len]; exact hk)
  rwa [conL_at hk] at this
theorem cnt_con {n n' : Nat} {g g' : Nat → Vw} (h : conL n' g' = conL n g) {op : List Int} : cntM op n' g' = op.length + cntV g n := by
  obtain ⟨rfl, hc⟩ := conL_inj h
  unfold cntM
  rw [cntV_sum, cntV_sum, sumV_congr hc]
section
variable (last : Int) (op : List Int) (cs : List Vc) (hs : SmallC cs) (hp : op.length ≤ 1048576)
include hs hp
theorem toMk' (oo : Option Addr) (oc : Nat) (ro : Option Addr) (rc n : Nat) (g : Nat → Vw) (hc : conL n g = cs) (w : World) (h : MH w w.heap.size oo op ro n g) :
    Calls Try.prog 13 #[.agg #[.int .i64 last, .slice oo op.length oc, .slice ro n rc]] w fun e w' => ∃ v, e = .returned v ∧ MkEnd last op cs w v w' := by
  subst hc
  exact toMk last oo oc op ro rc n g hp (small_n hs) (small_m hs) w h
theorem eqMk' (oo qo : Option Addr) (oc qc : Nat) (ro so : Option Addr) (rc sc n n' : Nat) (g g' : Nat → Vw) (h1 : conL n g = cs) (h2 : conL n' g' = cs) (w : World) (ha : MH w w.heap.size oo op ro n g) (hb : MH w w.heap.size qo op so n' g') :
    Calls Try.prog 15 #[.agg #[.int .i64 last, .slice oo op.length oc, .slice ro n rc], .agg #[.int .i64 last, .slice qo op.length qc, .slice so n' sc]] w fun e w' => e = .returned (.bool true) ∧ Below w.heap.size w w' := by
  subst h1
  obtain ⟨rfl, hcon⟩ := conL_inj h2
  exact eqMk last oo qo oc qc op ro so rc sc n' g g' hp (small_n hs) (small_m hs) hcon w ha hb
theorem markMk' (oo : Option Addr) (oc q : Nat) (ro : Option Addr) (rc n : Nat) (g : Nat → Vw) (hc : conL n g = cs) (hq : q + cntM op n g ≤ 8388608) (w : World) (h : MH w w.heap.size oo op ro n g) (lo : Nat) (hd : MD w lo oo op ro n g) :
    Calls Try.prog 18 #[.agg #[.int .i64 last, .slice oo op.length oc, .slice ro n rc], .int .i64 q] w fun e w' => e = .returned (.int .i64 ((q + cntM op n g : Nat) : Int)) ∧ MM w' oo op ro n q g ∧ Only (MS oo op ro n g) w w' := by
  subst hc
  exact markMk last oo oc q op ro rc n g hp (small_n hs) (small_m hs) hq w h lo hd
theorem heldMk' (oo : Option Addr) (oc q : Nat) (ro : Option Addr) (rc n : Nat) (g : Nat → Vw) (hc : conL n g = cs) (hq : q + cntM op n g ≤ 2097152) (w : World) (h : MM w oo op ro n q g) :
    Calls Try.prog 19 #[.agg #[.int .i64 last, .slice oo op.length oc, .slice ro n rc], .int .i64 q] w fun e w' => e = .returned (.int .i64 ((q + cntM op n g : Nat) : Int)) ∧ Below w.heap.size w w' := by
  subst hc
  exact heldMk last oo oc q op ro rc n g hp (small_n hs) (small_m hs) hq w h
theorem goodMarksM' (oo : Option Addr) (oc : Nat) (ro : Option Addr) (rc n : Nat) (g : Nat → Vw) (hc : conL n g = cs) (w : World) (h : MH w w.heap.size oo op ro n g) :
    Calls Try.prog 12 #[.agg #[.int .i64 last, .slice oo op.length oc, .slice ro n rc]] w fun e w' => e = .returned (.bool (goodMk last op cs)) ∧ Below w.heap.size w w' := by
  subst hc
  exact goodMkM last oo oc op ro rc n g hp (small_n hs) (small_m hs) w h
theorem goodMarksI' (oo : Option Addr) (oc : Nat) (ro : Option Addr) (rc n : Nat) (g : Nat → Vw) (hc : conL n g = cs) (w : World) (h : MH w w.heap.size oo op ro n g) :
    Calls Try.prog 14 #[.agg #[.int .i64 last, .slice oo op.length oc, .slice ro n rc]] w fun e w' => e = .returned (.bool (goodMk last op cs)) ∧ Below w.heap.size w w' := by
  subst hc
  exact goodMkI last oo oc op ro rc n g hp (small_n hs) (small_m hs) w h
theorem lowMarkM' (oo : Option Addr) (oc : Nat) (ro : Option Addr) (rc n : Nat) (g : Nat → Vw) (hc : conL n g = cs) (w : World) (h : MH w w.heap.size oo op ro n g) :
    Calls Try.prog 22 #[.agg #[.int .i64 last, .slice oo op.length oc, .slice ro n rc]] w fun e w' => e = .returned (.tuple #[.int .i64 (lowV last op cs), .bool (goodMk last op cs)]) ∧ Below w.heap.size w w' := by
  subst hc
  exact lowM last oo oc op ro rc n g hp (small_n hs) (small_m hs) w h
theorem lowMarkI' (oo : Option Addr) (oc : Nat) (ro : Option Addr) (rc n : Nat) (g : Nat → Vw) (hc : conL n g = cs) (w : World) (h : MH w w.heap.size oo op ro n g) :
    Calls Try.prog 23 #[.agg #[.int .i64 last, .slice oo op.length oc, .slice ro n rc]] w fun e w' => e = .returned (.tuple #[.int .i64 (lowV last op cs), .bool (goodMk last op cs)]) ∧ Below w.heap.size w w' := by
  subst hc
  exact lowI last oo oc op ro rc n g hp (small_n hs) (small_m hs) w h
end
end Go.Proofs.Ytabkjjbhnapgpaa
