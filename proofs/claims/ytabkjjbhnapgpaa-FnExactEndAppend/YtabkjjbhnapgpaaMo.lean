/- Marks that a call has made: each list in a row of its own. Copies of lists of numbers; over this seat's translation. -/
import Derived.Test.YtabkjjbhnapgpaaSg
import Derived.Test.YtabkjjbhnapgpaaKc
namespace Go.Proofs.Ytabkjjbhnapgpaa
open Go.RowKit Go.Deep Go.ChangeShapes Go.WideShapes Go.ChangeAt

/-- A list is answered, in memory of the call's own. -/
def LiEnd (l : List Int) (w : World) (e : Ending) (w' : World) : Prop :=
  (∃ (bo : Option Addr) (c : Nat), e = .returned (.slice bo l.length c) ∧ w'.ownsRow w.heap.size 3 1 (.slice bo l.length c) l.length (l.map (Value.int .i64))) ∧ Below w.heap.size w w'
theorem li_end {w w' : World} {l : List Int} {v : Value} (ho : w'.ownsRow w.heap.size 3 1 v l.length (l.map (Value.int .i64))) (h : Below w.heap.size w w') : LiEnd l w (.returned v) w' := by
  obtain ⟨ao, c, rfl⟩ := own_slice ho
  exact ⟨⟨ao, c, rfl, ho⟩, h⟩
/-- The block of a slice. -/
def ob (o : Option Addr) : Option Nat := o.map fun a => a.block
theorem ob_is (o : Option Addr) (n c : Nat) : (Value.slice o n c).ownBlock = ob o := by cases o <;> rfl
theorem ob_ne {o : Option Addr} {n c X : Nat} (h : ob o ≠ some X) : (Value.slice o n c).ownBlock ≠ some X := by rw [ob_is]; exact h
def Dis (a b : Option Nat) : Prop := ∀ x, a = some x → b ≠ some x
theorem Dis.symm {a b : Option Nat} (h : Dis a b) : Dis b a := fun x hx hy => h x hy hx
theorem own_ob {w : World} {lo : Nat} {t : TypeId} {s n c : Nat} {o : Option Addr} {xs : List Value} (h : w.ownsRow lo t s (.slice o n c) n xs) : ∀ x, ob o = some x → lo ≤ x ∧ x < w.heap.size := fun x hx => h.lt x (by rw [ob_is]; exact hx)
theorem dis_new {w : World} {lo B : Nat} {t : TypeId} {s n c : Nat} {o : Option Addr} {xs : List Value} {b : Option Nat} (h : w.ownsRow lo t s (.slice o n c) n xs) (hw : w.heap.size ≤ B) (hb : ∀ x, b = some x → B ≤ x) : Dis (ob o) b := fun x hx hy => by
  have h1 := own_ob h x hx
  have h2 := hb x hy
  omega
/-- Rows that lie apart. -/
def MOwn (lo : Nat) (oo : Option Addr) (oc : Nat) (op : List Int) (ro : Option Addr) (rc k : Nat) (g : Nat → Vw) (w : World) : Prop :=
  w.ownsRow lo 3 1 (.slice oo op.length oc) op.length (op.map (Value.int .i64)) ∧ w.ownsRow lo 43 3 (.slice ro k rc) k (cellsF vC g k) ∧
  (∀ i, i < k → w.ownsRow lo 3 1 (.slice (g i).ao (g i).xs.length (g i).cap) (g i).xs.length ((g i).xs.map (Value.int .i64))) ∧
  Dis (ob oo) (ob ro) ∧ (∀ i, i < k → Dis (ob oo) (ob (g i).ao) ∧ Dis (ob ro) (ob (g i).ao)) ∧ ∀ i j, i < k → j < k → i ≠ j → Dis (ob (g i).ao) (ob (g j).ao)
theorem MOwn.below {lo : Nat} {oo : Option Addr} {oc : Nat} {op : List Int} {ro : Option Addr} {rc k : Nat} {g : Nat → Vw} {w w' : World} (h : MOwn lo oo oc op ro rc k g w) (hb : Below w.heap.size w w') : MOwn lo oo oc op ro rc k g w' :=
  ⟨own_below h.1 hb, own_below h.2.1 hb, fun i hi => own_below (h.2.2.1 i hi) hb, h.2.2.2⟩
theorem MOwn.set {lo : Nat} {oo : Option Addr} {oc : Nat} {op : List Int} {ro : Option Addr} {rc k : Nat} {g : Nat → Vw} {w : World} (h : MOwn lo oo oc op ro rc k g w) {X i : Nat} (hX : X < lo) (u : Value) : MOwn lo oo oc op ro rc k g (w.setCell ⟨X, i, none⟩ u) :=
  ⟨own_set h.1 hX, own_set h.2.1 hX, fun i hi => own_set (h.2.2.1 i hi) hX, h.2.2.2⟩
/-- Block X is none of theirs. -/
def MNo (X : Nat) (oo ro : Option Addr) (k : Nat) (g : Nat → Vw) : Prop := ob oo ≠ some X ∧ ob ro ≠ some X ∧ ∀ i, i < k → ob (g i).ao ≠ some X
theorem MOwn.put {lo : Nat} {oo : Option Addr} {oc : Nat} {op : List Int} {ro : Option Addr} {rc k : Nat} {g : Nat → Vw} {w : World} (h : MOwn lo oo oc op ro rc k g w) {X i : Nat} (hX : MNo X oo ro k g) (u : Value) : MOwn lo oo oc op ro rc k g (w.setCell ⟨X, i, none⟩ u) :=
  ⟨own_put h.1 (by rw [ob_is]; exact hX.1), own_put h.2.1 (by rw [ob_is]; exact hX.2.1), fun i hi => own_put (h.2.2.1 i hi) (by rw [ob_is]; exact hX.2.2 i hi), h.2.2.2⟩
theorem MNo.start {X : Nat} {oo : Option Addr} (g : Nat → Vw) (h : ob oo ≠ some X) : MNo X oo none 0 g := ⟨h, fun e => (by cases e), fun i hi => absurd hi (by omega)⟩
theorem MNo.step {X : Nat} {oo ro ro' : Option Addr} {k : Nat} {g : Nat → Vw} {v : Vw} {B : Nat} (h : MNo X oo ro k g) (hr : ob ro' = ob ro ∨ ob ro' = some B) (hB : X < B) (hv : ∀ x, ob v.ao = some x → X < x) : MNo X oo ro' (k + 1) (fun i => if i = k then v else g i) :=
  ⟨h.1, by
    rcases hr with e | e
    · rw [e]; exact h.2.1
    · rw [e]; intro e2; injection e2 with e2; omega, fun i hi => by
    by_cases e : i = k
    · simp only [e, if_true]; intro e2; have := hv _ e2; omega
    · simp only [e, if_false]; exact h.2.2 i (by omega)⟩
theorem MNo.far {lo X : Nat} {oo : Option Addr} {oc : Nat} {op : List Int} {ro : Option Addr} {rc k : Nat} {g : Nat → Vw} {w : World} (h : MOwn lo oo oc op ro rc k g w) (hX : X < lo ∨ w.heap.size ≤ X) : MNo X oo ro k g :=
  ⟨fun e => by have := own_ob h.1 X e; omega, fun e => by have := own_ob h.2.1 X e; omega, fun i hi e => by have := own_ob (h.2.2.1 i hi) X e; omega⟩
theorem MOwn.lower {lo lo' : Nat} {oo : Option Addr} {oc : Nat} {op : List Int} {ro : Option Addr} {rc k : Nat} {g : Nat → Vw} {w : World} (h : MOwn lo oo oc op ro rc k g w) (hl : lo' ≤ lo) : MOwn lo' oo oc op ro rc k g w :=
  ⟨own_lower h.1 hl, own_lower h.2.1 hl, fun i hi => own_lower (h.2.2.1 i hi) hl, h.2.2.2⟩
theorem MOwn.start {lo : Nat} {oo : Option Addr} {oc : Nat} {op : List Int} (g : Nat → Vw) {w : World} (h : w.ownsRow lo 3 1 (.slice oo op.length oc) op.length (op.map (Value.int .i64))) : MOwn lo oo oc op none 0 0 g w :=
  ⟨h, World.ownsRow_nil _ _ _ _, fun i hi => absurd hi (by omega), fun _ _ hy => (by cases hy), fun i hi => absurd hi (by omega), fun i j hi => absurd hi (by omega)⟩
theorem MOwn.step {lo : Nat} {oo : Option Addr} {oc : Nat} {op : List Int} {ro ro' : Option Addr} {rc rc' k : Nat} {g : Nat → Vw} {v : Vw} {w wb w3 : World} (h : MOwn lo oo oc op ro rc k g w) (hb : Below w.heap.size w wb)
    (hv : wb.ownsRow w.heap.size 3 1 (.slice v.ao v.xs.length v.cap) v.xs.length (v.xs.map (Value.int .i64))) (hg : wb.grownBy w3 (ob ro)) (ho : w3.ownsRow lo 43 3 (.slice ro' (k + 1) rc') (k + 1) (cellsF vC g k ++ vC v))
    (hr : ob ro' = ob ro ∨ ob ro' = some wb.heap.size) (hlo : lo ≤ w.heap.size) : MOwn lo oo oc op ro' rc' (k + 1) (fun i => if i = k then v else g i) w3 := by
  have h1 := h.below hb
  have keep : ∀ {t : TypeId} {s n c : Nat} {o : Option Addr} {xs : List Value} {l : Nat}, wb.ownsRow l t s (.slice o n c) n xs → Dis (ob ro) (ob o) → w3.ownsRow l t s (.slice o n c) n xs := fun {t s n c o xs l} hx hd => by
    refine hx.kept hg ?_
    rw [ob_is]
    cases ho : ob o with
    | none => exact .inl rfl
    | some x => exact .inr fun e => hd x e.symm ho
  have dn : ∀ {t : TypeId} {s n c : Nat} {o : Option Addr} {xs : List Value} {l : Nat}, wb.ownsRow l t s (.slice o n c) n xs → Dis (ob ro) (ob o) → Dis (ob ro') (ob o) := fun hx hd => by
    rcases hr with e | e
    · rw [e]; exact hd
    · intro x hx' hy
      have h2 := (own_ob hx x hy).2
      rw [e] at hx'
      injection hx' with hx'
      omega
  have hnew : ∀ x, ob v.ao = some x → w.heap.size ≤ x := fun x hx => (own_ob hv x hx).1
  have dov : Dis (ob oo) (ob v.ao) := dis_new h.1 (Nat.le_refl _) hnew
  have drv : Dis (ob ro) (ob v.ao) := dis_new h.2.1 (Nat.le_refl _) hnew
  have dgv : ∀ i, i < k → Dis (ob (g i).ao) (ob v.ao) := fun i hi => dis_new (h.2.2.1 i hi) (Nat.le_refl _) hnew
  refine ⟨keep h1.1 h.2.2.2.1.symm, ?_, fun i hi => ?_, (dn h1.1 h.2.2.2.1.symm).symm, fun i hi => ?_, fun i j hi hj hne => ?_⟩
  · have e : cellsF vC (fun i => if i = k then v else g i) (k + 1) = cellsF vC g k ++ vC v := by
      show cellsF vC (fun i => if i = k then v else g i) k ++ vC (if k = k then v else g k) = _
      rw [if_pos rfl, cellsF_congr (g' := g) fun i hi => by simp only [show i ≠ k by omega, if_false]]
    rw [e]; exact ho
  · by_cases e : i = k
    · simp only [e, if_true]
      exact own_lower (keep hv drv) hlo
    · simp only [e, if_false]
      exact keep (h1.2.2.1 i (by omega)) (h.2.2.2.2.1 i (by omega)).2
  · by_cases e : i = k
    · simp only [e, if_true]
      exact ⟨dov, dn hv drv⟩
    · simp only [e, if_false]
      exact ⟨(h.2.2.2.2.1 i (by omega)).1, dn (h1.2.2.1 i (by omega)) (h.2.2.2.2.1 i (by omega)).2⟩
  · by_cases e : i = k
    · by_cases e2 : j = k
      · omega
      · simp only [e, e2, if_true, if_false]
        exact (dgv j (by omega)).symm
    · by_cases e2 : j = k
      · simp only [e, e2, if_true, if_false]
        exact dgv i (by omega)
      · simp only [e, e2, if_false]
        exact h.2.2.2.2.2 i j (by omega) (by omega) hne
theorem blk_ob {o : Option Addr} (h : ∃ b off, o = some ⟨b, off, none⟩) : ob o = some (blk o) := by
  obtain ⟨b, off, rfl⟩ := h
  rfl
theorem own_some {w : World} {lo : Nat} {t : TypeId} {s n c : Nat} {o : Option Addr} {xs : List Value} (h : w.ownsRow lo t s (.slice o n c) n xs) (hp : 0 < n) : ob o = some (blk o) := by
  obtain ⟨_, ⟨he, hn⟩ | ⟨g, cap, cur, he, _⟩⟩ := h
  · omega
  · injection he with h1 h2 h3
    subst h1
    rfl
/-- What was made is marks of the call's own. -/
theorem MOwn.done {lo : Nat} {oo : Option Addr} {oc : Nat} {op : List Int} {ro : Option Addr} {rc k : Nat} {g : Nat → Vw} {w : World} (h : MOwn lo oo oc op ro rc k g w) (h1 : ∀ x ∈ op, In64 x) (h2 : ∀ i, i < k → ∀ x ∈ (g i).xs, In64 x) : MH w w.heap.size oo op ro k g ∧ MD w lo oo op ro k g := by
  have ne : ∀ {a b : Option Addr}, Dis (ob a) (ob b) → ob a = some (blk a) → ob b = some (blk b) → blk a ≠ blk b := fun hd ha hb e => hd _ ha (by rw [e]; exact hb)
  have hv := vf_own vC_len h.2.1 fun i hi => irow_own (h2 i hi) (h.2.2.1 i hi)
  refine ⟨⟨irow_own h1 h.1, hv⟩, ⟨fun hp => own_free h.2.1 hp, fun i hi hp => ?_, fun i j hi hj hne hp hq => ?_⟩, fun hp => ?_⟩
  · have hf := own_free (h.2.2.1 i hi) hp
    exact ⟨hf.1, (ne (h.2.2.2.2.1 i hi).2 (own_some h.2.1 (by omega)) (own_some (h.2.2.1 i hi) hp)).symm, hf.2⟩
  · exact ne (h.2.2.2.2.2 i j hi hj hne) (own_some (h.2.2.1 i hi) hp) (own_some (h.2.2.1 j hj) hq)
  · have hf := own_free h.1 hp
    refine ⟨hf.1, hf.2, ?_⟩
    rintro (⟨hq, e⟩ | ⟨i, hi, hq, e⟩)
    · exact ne h.2.2.2.1 (own_some h.1 hp) (own_some h.2.1 hq) e
    · exact ne (h.2.2.2.2.1 i hi).1 (own_some h.1 hp) (own_some (h.2.2.1 i hi) hq) e

set_option maxHeartbeats 2000000 in
set_option maxRecDepth 100000 in
theorem ownM (ao : Option Addr) (cap : Nat) (l : List Int) (hn : l.length ≤ 1048576) (w : World) (h : IRow w w.heap.size ao l) :
    Calls Try.prog 61 #[.slice ao l.length cap] w (LiEnd l w) := by
  obtain ⟨i0, hi, hz0, hz1, hz2⟩ := info_parts Try.info3
  have HO : Hid ((w.alloc (.cells #[] 3)).ownsRow w.heap.size 3 1 (.slice (some ⟨w.heap.size, 0, none⟩) 0 0) 0 []) := Lib.hid (own_empty0 (blk_alloc_new w _) (Nat.le_refl _))
  have hb0 := (Below.refl w.heap.size w).alloc (Nat.le_refl _) (.cells #[] 3)
  have HB0 := Lib.hid hb0
  have HSr := Lib.hid (h.below hb0.size hb0).src
  clear h hb0
  go_enter Try.func61, Try.ntmps61
  go_wp2_with (at_builtin; refine wpList_append_more _ rfl _ _ rfl Try.underlying22 hi hz0 hz1 hz2 rfl (by decide) w.heap.size _ _ _ rfl HO.out ao l.length cap (l.map (Value.int .i64)) rfl HSr.out (ones_int l) ?c3 ?c4 ?c5 ?_)
  case c3 => unfold maxLen; omega
  case c4 => omega
  case c5 => exact HB0.out.size
  intro v' w4 hown' hgrow _
  try simp only [Nat.zero_add, List.nil_append] at hown'
  have HE := Lib.hid (li_end hown' (own_grown HB0.out HO.out hgrow (Nat.le_refl _)))
  clear hown' hgrow
  go_wp2
  go_ret
  exact HE.out
end Go.Proofs.Ytabkjjbhnapgpaa
