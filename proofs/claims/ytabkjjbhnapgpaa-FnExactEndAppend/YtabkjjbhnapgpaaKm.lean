/- What a law that is answered marks does: places of marks, marked from 1 on, held. Over this seat's translation. -/
import Derived.Test.YtabkjjbhnapgpaaKc
import Derived.Test.YtabkjjbhnapgpaaBv
namespace Go.Proofs.Ytabkjjbhnapgpaa
open Go.RowKit Go.Deep Go.ChangeShapes Go.WideShapes Go.ChangeAt

/-- Marks in a block of three cells, and their lists. -/
def At (W : World) (p : Nat) (last : Int) (oo : Option Addr) (oc : Nat) (op : List Int) (ro : Option Addr) (rc n : Nat) (g : Nat → Vw) : Prop := B3 W p (.int .i64 last) (.slice oo op.length oc) (.slice ro n rc) ∧ MH W W.heap.size oo op ro n g
theorem At.below {W W' : World} {p : Nat} {last : Int} {oo : Option Addr} {oc : Nat} {op : List Int} {ro : Option Addr} {rc n : Nat} {g : Nat → Vw} (h : At W p last oo oc op ro rc n g) (hb : Below W.heap.size W W') : At W' p last oo oc op ro rc n g := ⟨h.1.below hb, h.2.below hb.size hb⟩
theorem At.only {S : Nat → Prop} {W W' : World} {p : Nat} {last : Int} {oo : Option Addr} {oc : Nat} {op : List Int} {ro : Option Addr} {rc n : Nat} {g : Nat → Vw} (h : At W p last oo oc op ro rc n g) (ho : Only S W W') (hp : ¬ S p) (hn : ∀ i, MS oo op ro n g i → ¬ S i) : At W' p last oo oc op ro rc n g := ⟨h.1.only ho hp, h.2.only ho hn⟩
theorem At.new {w' : World} {last : Int} {oo : Option Addr} {oc : Nat} {op : List Int} {ro : Option Addr} {rc n : Nat} {g : Nat → Vw} (h : MH w' w'.heap.size oo op ro n g) (t : TypeId) : At (w'.alloc (.cells #[.int .i64 last, .slice oo op.length oc, .slice ro n rc] t)) w'.heap.size last oo oc op ro rc n g :=
  ⟨B3.new _ _ _ _ t, h.below (by simp) ((Below.refl _ _).alloc (Nat.le_refl _) _)⟩
/-- Marks lie between two sizes. -/
def Btw (a b : Nat) (oo : Option Addr) (op : List Int) (ro : Option Addr) (n : Nat) (g : Nat → Vw) : Prop := ∀ i, MS oo op ro n g i → a ≤ i ∧ i < b
theorem MM.after {W W' : World} {oo : Option Addr} {op : List Int} {ro : Option Addr} {n q : Nat} {g : Nat → Vw} (h : MM W oo op ro n q g) (hb : Below W.heap.size W W') : MM W' oo op ro n q g := ⟨h.1.below hb.size hb, h.2.below hb.size hb⟩
section
variable (last : Int) (op : List Int) (cs : List Vc) (hs : SmallC cs) (hp : op.length ≤ 1048576)
include hs hp
theorem mark1 (oo : Option Addr) (oc : Nat) (ro : Option Addr) (rc n : Nat) (g : Nat → Vw) (hc : conL n g = cs) (hq : 1 + cntM op n g ≤ 8388608) (w : World) (h : MH w w.heap.size oo op ro n g) (lo : Nat) (hd : MD w lo oo op ro n g) :
    Calls Try.prog 18 #[.agg #[.int .i64 last, .slice oo op.length oc, .slice ro n rc], .int .i64 1] w fun e w' => ∃ k : Int, ¬ k < 0 ∧ k = ((1 + cntM op n g : Nat) : Int) ∧ e = .returned (.int .i64 k) ∧ MM w' oo op ro n 1 g ∧ Only (MS oo op ro n g) w w' := by
  refine (markMk' last op cs hs hp oo oc 1 ro rc n g hc hq w h lo hd).mono ?_
  rintro e w' ⟨rfl, h1, h2⟩
  exact ⟨_, by omega, rfl, rfl, h1, h2⟩
theorem held1 (oo : Option Addr) (oc : Nat) (ro : Option Addr) (rc n : Nat) (g : Nat → Vw) (hc : conL n g = cs) (hq : 1 + cntM op n g ≤ 2097152) (k : Int) (hk : k = ((1 + cntM op n g : Nat) : Int)) (w : World) (h : MM w oo op ro n 1 g) :
    Calls Try.prog 19 #[.agg #[.int .i64 last, .slice oo op.length oc, .slice ro n rc], .int .i64 1] w fun e w' => e = .returned (.int .i64 k) ∧ Below w.heap.size w w' := by
  subst hk
  exact heldMk' last op cs hs hp oo oc 1 ro rc n g hc hq w h
end
theorem cnt_big {cs : List Vc} {n0 : Nat} {g0 : Nat → Vw} (h0 : conL n0 g0 = cs) {op : List Int} (hs : op.length + (n0 + sumV g0 n0) ≤ 1048576) : ∀ n g, conL n g = cs → 1 + cntM op n g ≤ 8388608 := fun n g hc => by
  rw [cnt_con (hc.trans h0.symm), cntV_sum]
  omega
theorem begO_len {last : Int} {op : List Int} {cs : List Vc} : (begO last op cs).length ≤ 1048576 := by
  unfold begO
  split
  · rename_i h
    have hg : goodMk last op cs = true := by unfold begB at h; simp at h; exact h.1
    have := (goodMk_is hg).1.2.1
    simp; omega
  · simp
theorem begC_small {last : Int} {op : List Int} {cs : List Vc} (h : SmallC cs) : SmallC (begC last op cs) := by
  unfold begC
  split
  · exact h
  · exact ⟨by simp, fun k hk => absurd hk (by simp)⟩
theorem begC_cnt {last : Int} {op : List Int} {cs : List Vc} {n0 : Nat} {g0 : Nat → Vw} (h0 : conL n0 g0 = cs) (hs : op.length + (n0 + sumV g0 n0) ≤ 1048576) : ∀ n g, conL n g = begC last op cs → 1 + cntM (begO last op cs) n g ≤ 2097152 := fun n g hc => by
  by_cases h : begB last op cs = true
  · have hg : goodMk last op cs = true := by unfold begB at h; simp at h; exact h.1
    have h8 := (goodMk_is hg).1.2.1
    have h9 := (goodMk_is hg).2.1
    have hl : (begO last op cs).length ≤ 9 := by unfold begO; rw [if_pos h]; simp; omega
    rw [show begC last op cs = cs from if_pos h] at hc
    rw [cnt_con (hc.trans h0.symm), cntV_sum]
    have : n0 ≤ 8 := by rw [← h0, conL_len] at h9; exact h9
    omega
  · have e1 : begC last op cs = [] := if_neg h
    have e2 : begO last op cs = [] := if_neg h
    rw [e1] at hc
    have hn : n = 0 := by have := congrArg List.length hc; rwa [conL_len] at this
    subst hn
    rw [e2]
    simp [cntM, cntV]
theorem contr1 {last : Int} {op : List Int} {cs : List Vc} (hs : SmallC cs) (hp : op.length ≤ 1048576) (F : Nat) (H : ∀ (oo : Option Addr) (oc : Nat) (ro : Option Addr) (rc n : Nat) (g : Nat → Vw), op.length ≤ 1048576 → n ≤ 1048576 → (∀ k, k < n → (g k).xs.length ≤ 1048576) → ∀ w : World, MH w w.heap.size oo op ro n g →
    Calls Try.prog F #[.agg #[.int .i64 last, .slice oo op.length oc, .slice ro n rc]] w (MnEnd (begL last op (conL n g)) (begO last op (conL n g)) (begC last op (conL n g)) (begL last op (conL n g)) (begB last op (conL n g)) w))
    (oo : Option Addr) (oc : Nat) (ro : Option Addr) (rc n : Nat) (g : Nat → Vw) (hc : conL n g = cs) (w : World) (h : MH w w.heap.size oo op ro n g) :
    Calls Try.prog F #[.agg #[.int .i64 last, .slice oo op.length oc, .slice ro n rc]] w (MnEnd (begL last op cs) (begO last op cs) (begC last op cs) (begL last op cs) (begB last op cs) w) := by
  subst hc
  exact H oo oc ro rc n g hp (small_n hs) (small_m hs) w h
end Go.Proofs.Ytabkjjbhnapgpaa
