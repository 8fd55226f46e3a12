/- What EndAppend answers; over this seat's translation. -/
import Derived.Test.YtabkjjbhnapgpaaBv
import Derived.Test.YtabkjjbhnapgpaaKm
namespace Go.Proofs.Ytabkjjbhnapgpaa
open Go.RowKit Go.Deep Go.ChangeShapes Go.WideShapes Go.ChangeAt

noncomputable def endB (last : Int) (op : List Int) (cs : List Vc) (id : Int) : Bool := goodMk last op cs && decide (id ∈ op)
noncomputable def endL (last : Int) (op : List Int) (cs : List Vc) (id : Int) : Int := if endB last op cs id = true then last else 0
noncomputable def endO (last : Int) (op : List Int) (cs : List Vc) (id : Int) : List Int := if endB last op cs id = true then siftR op [id] false else []
noncomputable def endC (last : Int) (op : List Int) (cs : List Vc) (id : Int) : List Vc := if endB last op cs id = true then cs else []
theorem endB_good {last : Int} {op : List Int} {cs : List Vc} {id : Int} (h : endB last op cs id = true) : goodMk last op cs = true := by unfold endB at h; simp at h; exact h.1
theorem endB_of {last : Int} {op : List Int} {cs : List Vc} {id : Int} (h : goodMk last op cs = true) (h1 : decide (id ∈ op) = true) : endB last op cs id = true := by simp at h1; simp [endB, h, h1]
theorem endB_bad {last : Int} {op : List Int} {cs : List Vc} {id : Int} (h : goodMk last op cs = false) : endB last op cs id = false := by simp [endB, h]
theorem endB_not {last : Int} {op : List Int} {cs : List Vc} {id : Int} (h : decide (id ∈ op) = false) : endB last op cs id = false := by simp at h; simp [endB, h]
theorem mb_no {last : Int} {op : List Int} {cs : List Vc} {id : Int} {w w' : World} (h : endB last op cs id = false) (hb : Below w.heap.size w w') : MbEnd (endL last op cs id) (endO last op cs id) (endC last op cs id) (endB last op cs id) w (.returned (.tuple #[.agg #[.int .i64 0, .slice none 0 0, .slice none 0 0], .bool false])) w' := by
  have h1 : ¬ endB last op cs id = true := by rw [h]; decide
  unfold endL endO endC
  rw [if_neg h1, if_neg h1, if_neg h1, h]
  exact ⟨_, rfl, mk_zero hb⟩
theorem mb_yes {last : Int} {op : List Int} {cs : List Vc} {id : Int} {w w' : World} {v : Value} (h : endB last op cs id = true) (hv : MkEnd last (siftR op [id] false) cs w v w') : MbEnd (endL last op cs id) (endO last op cs id) (endC last op cs id) (endB last op cs id) w (.returned (.tuple #[v, .bool true])) w' := by
  unfold endL endO endC
  rw [if_pos h, if_pos h, if_pos h, h]
  exact ⟨_, rfl, hv⟩
theorem endO_len {last : Int} {op : List Int} {cs : List Vc} {id : Int} : (endO last op cs id).length ≤ 1048576 := by
  unfold endO
  split
  · rename_i h
    have := (goodMk_is (endB_good h)).1.2.1
    have h2 := siftR_len op [id] false
    omega
  · simp
theorem endC_small {last : Int} {op : List Int} {cs : List Vc} {id : Int} (h : SmallC cs) : SmallC (endC last op cs id) := by
  unfold endC
  split
  · exact h
  · exact ⟨by simp, fun k hk => absurd hk (by simp)⟩
theorem endC_cnt {last : Int} {op : List Int} {cs : List Vc} {id : Int} {n0 : Nat} {g0 : Nat → Vw} (h0 : conL n0 g0 = cs) (hs : op.length + (n0 + sumV g0 n0) ≤ 1048576) : ∀ n g, conL n g = endC last op cs id → 1 + cntM (endO last op cs id) n g ≤ 2097152 := fun n g hc => by
  by_cases h : endB last op cs id = true
  · have hg := endB_good h
    have h8 := (goodMk_is hg).1.2.1
    have h9 := (goodMk_is hg).2.1
    have hl : (endO last op cs id).length ≤ 8 := by
      have h2 := siftR_len op [id] false
      unfold endO; rw [if_pos h]; omega
    rw [show endC last op cs id = cs from if_pos h] at hc
    rw [cnt_con (hc.trans h0.symm), cntV_sum]
    have : n0 ≤ 8 := by rw [← h0, conL_len] at h9; exact h9
    omega
  · have e1 : endC last op cs id = [] := if_neg h
    have e2 : endO last op cs id = [] := if_neg h
    rw [e1] at hc
    have hn : n = 0 := by have := congrArg List.length hc; rwa [conL_len] at this
    subst hn
    rw [e2]
    simp [cntM, cntV]
theorem contr2 {last id : Int} {op : List Int} {cs : List Vc} (hs : SmallC cs) (hp : op.length ≤ 1048576) (F : Nat) (H : ∀ (oo : Option Addr) (oc : Nat) (ro : Option Addr) (rc n : Nat) (g : Nat → Vw), op.length ≤ 1048576 → n ≤ 1048576 → (∀ k, k < n → (g k).xs.length ≤ 1048576) → ∀ w : World, MH w w.heap.size oo op ro n g →
    Calls Try.prog F #[.agg #[.int .i64 last, .slice oo op.length oc, .slice ro n rc], .int .i64 id] w (MbEnd (endL last op (conL n g) id) (endO last op (conL n g) id) (endC last op (conL n g) id) (endB last op (conL n g) id) w))
    (oo : Option Addr) (oc : Nat) (ro : Option Addr) (rc n : Nat) (g : Nat → Vw) (hc : conL n g = cs) (w : World) (h : MH w w.heap.size oo op ro n g) :
    Calls Try.prog F #[.agg #[.int .i64 last, .slice oo op.length oc, .slice ro n rc], .int .i64 id] w (MbEnd (endL last op cs id) (endO last op cs id) (endC last op cs id) (endB last op cs id) w) := by
  subst hc
  exact H oo oc ro rc n g hp (small_n hs) (small_m hs) w h
/-- The list of open numbers is a new one. -/
theorem MOwn.fresh {lo : Nat} {oo oo' : Option Addr} {oc oc' : Nat} {op op' : List Int} {ro : Option Addr} {rc k : Nat} {g : Nat → Vw} {w w3 : World} (h : MOwn lo oo oc op ro rc k g w) (hb : Below w.heap.size w w3)
    (ho : w3.ownsRow w.heap.size 3 1 (.slice oo' op'.length oc') op'.length (op'.map (Value.int .i64))) (hlo : lo ≤ w.heap.size) : MOwn lo oo' oc' op' ro rc k g w3 :=
  ⟨own_lower ho hlo, own_below h.2.1 hb, fun i hi => own_below (h.2.2.1 i hi) hb, (dis_new h.2.1 (Nat.le_refl _) (fun x hx => (own_ob ho x hx).1)).symm, fun i hi => ⟨(dis_new (h.2.2.1 i hi) (Nat.le_refl _) (fun x hx => (own_ob ho x hx).1)).symm, (h.2.2.2.2.1 i hi).2⟩, h.2.2.2.2.2⟩
theorem siftR_in64 {a b : List Int} {hs : Bool} (h : ∀ x ∈ a, In64 x) : ∀ x ∈ siftR a b hs, In64 x := fun x hx => h x (siftR_mem.1 hx).1
end Go.Proofs.Ytabkjjbhnapgpaa
