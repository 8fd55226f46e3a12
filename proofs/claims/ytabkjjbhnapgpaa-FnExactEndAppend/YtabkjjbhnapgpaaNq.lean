/- What stands while marks are copied; over this seat's translation. -/
import Derived.Test.YtabkjjbhnapgpaaMo
namespace Go.Proofs.Ytabkjjbhnapgpaa
open Go.RowKit Go.Deep Go.ChangeShapes Go.WideShapes Go.ChangeAt

/-- What stands behind k views that were copied: the marks in block X. -/
def Lo (w : World) (X lo : Nat) (last : Int) (oo : Option Addr) (oc : Nat) (op : List Int) (g : Nat → Vw) (k : Nat) (wr : World) : Prop :=
  ∃ (ro : Option Addr) (rc : Nat) (g' : Nat → Vw), B3 wr X (.int .i64 last) (.slice oo op.length oc) (.slice ro k rc) ∧ MOwn lo oo oc op ro rc k g' wr ∧ MNo X oo ro k g' ∧ B3 wr (w.heap.size + 1) (.int .i64 0) (.slice none 0 0) (.slice none 0 0) ∧ (∀ i, i < k → (g' i).con = (g i).con) ∧ Below w.heap.size w wr

/-- The marks' own block, and the list of open numbers: as they are laid. -/
def Mb (w0 : World) (last : Int) (op : List Int) (X : Nat) (bo : Option Addr) (bc : Nat) (wx : World) : Prop :=
  B3 wx X (.int .i64 last) (.slice bo op.length bc) (.slice none 0 0) ∧ wx.ownsRow w0.heap.size 3 1 (.slice bo op.length bc) op.length (op.map (Value.int .i64)) ∧ ob bo ≠ some X ∧ w0.heap.size ≤ X ∧ Below w0.heap.size w0 wx
theorem mb_new {w0 wa : World} {last : Int} {op : List Int} {bo : Option Addr} {bc : Nat} (t : TypeId) (ho : wa.ownsRow w0.heap.size 3 1 (.slice bo op.length bc) op.length (op.map (Value.int .i64))) (hb : Below w0.heap.size w0 wa) :
    Mb w0 last op wa.heap.size bo bc (wa.alloc (.cells #[.int .i64 last, .slice bo op.length bc, .slice none 0 0] t)) :=
  ⟨B3.new _ _ _ _ t, ho.alloc _, fun e => by have := own_ob ho _ e; omega, hb.size, hb.alloc hb.size _⟩
theorem mb_old {w0 wa : World} {last : Int} {op : List Int} {bo : Option Addr} {bc : Nat} {a b c : Value} (hY : B3 wa w0.heap.size a b c) (ho : wa.ownsRow w0.heap.size 3 1 (.slice bo op.length bc) op.length (op.map (Value.int .i64))) (hb : Below w0.heap.size w0 wa) (hn : ob bo ≠ some w0.heap.size) :
    Mb w0 last op w0.heap.size bo bc (((wa.setCell ⟨w0.heap.size, 0, none⟩ (.int .i64 last)).setCell ⟨w0.heap.size, 1, none⟩ (.slice bo op.length bc)).setCell ⟨w0.heap.size, 2, none⟩ (.slice none 0 0)) :=
  ⟨((hY.set0 _).set1 _).set2 _, own_put (own_put (own_put ho (by rw [ob_is]; exact hn)) (by rw [ob_is]; exact hn)) (by rw [ob_is]; exact hn), hn, Nat.le_refl _, ((hb.setCell (Nat.le_refl _) _).setCell (Nat.le_refl _) _).setCell (Nat.le_refl _) _⟩

theorem only_set3 {X : Nat} (w : World) (a b c : Nat) (x y z : Value) : Only (fun i => i = X) w (((w.setCell ⟨X, a, none⟩ x).setCell ⟨X, b, none⟩ y).setCell ⟨X, c, none⟩ z) :=
  ((Only.set (S := fun i => i = X) w (p := ⟨X, a, none⟩) x rfl).trans (Only.set _ (p := ⟨X, b, none⟩) y rfl)).trans (Only.set _ (p := ⟨X, c, none⟩) z rfl)

/-- Marks are answered: these numbers, each list in a row of the call's own. -/
def MwEnd (last : Int) (op : List Int) (cs : List Vc) (w : World) (v : Value) (w' : World) : Prop :=
  ∃ (oo : Option Addr) (oc : Nat) (ro : Option Addr) (rc n : Nat) (g : Nat → Vw), v = .agg #[.int .i64 last, .slice oo op.length oc, .slice ro n rc] ∧ conL n g = cs ∧ (∀ x ∈ op, In64 x) ∧ (∀ i, i < n → ∀ x ∈ (g i).xs, In64 x) ∧ MOwn w.heap.size oo oc op ro rc n g w' ∧ Below w.heap.size w w'
theorem MwEnd.mk {last : Int} {op : List Int} {cs : List Vc} {w w' : World} {v : Value} (h : MwEnd last op cs w v w') : MkEnd last op cs w v w' := by
  obtain ⟨oo, oc, ro, rc, n, g, h1, h2, h3, h4, h5, h6⟩ := h
  have := h5.done h3 h4
  exact ⟨oo, oc, ro, rc, n, g, h1, h2, this.1, this.2, h6⟩
theorem MwEnd.lower {last : Int} {op : List Int} {cs : List Vc} {w W w' : World} {v : Value} (h : MwEnd last op cs W v w') (hb : Below w.heap.size w W) : MwEnd last op cs w v w' := by
  obtain ⟨oo, oc, ro, rc, n, g, h1, h2, h3, h4, h5, h6⟩ := h
  exact ⟨oo, oc, ro, rc, n, g, h1, h2, h3, h4, h5.lower hb.size, hb.trans (h6.mono hb.size)⟩
/-- The list of open numbers is another one, in its own block or in a new one. -/
theorem MOwn.more {lo : Nat} {oo oo' : Option Addr} {oc oc' : Nat} {op op' : List Int} {ro : Option Addr} {rc k : Nat} {g : Nat → Vw} {w w3 : World} (h : MOwn lo oo oc op ro rc k g w) (hg : w.grownBy w3 (ob oo))
    (ho : w3.ownsRow lo 3 1 (.slice oo' op'.length oc') op'.length (op'.map (Value.int .i64))) (hr : ob oo' = ob oo ∨ ob oo' = some w.heap.size) : MOwn lo oo' oc' op' ro rc k g w3 := by
  have keep : ∀ {t : TypeId} {s n c : Nat} {o : Option Addr} {xs : List Value} {l : Nat}, w.ownsRow l t s (.slice o n c) n xs → Dis (ob oo) (ob o) → w3.ownsRow l t s (.slice o n c) n xs := fun {t s n c o xs l} hx hd => by
    refine hx.kept hg ?_
    rw [ob_is]
    cases ho : ob o with
    | none => exact .inl rfl
    | some x => exact .inr fun e => hd x e.symm ho
  have dn : ∀ {t : TypeId} {s n c : Nat} {o : Option Addr} {xs : List Value} {l : Nat}, w.ownsRow l t s (.slice o n c) n xs → Dis (ob oo) (ob o) → Dis (ob oo') (ob o) := fun hx hd => by
    rcases hr with e | e
    · rw [e]; exact hd
    · intro x hx' hy
      have h2 := (own_ob hx x hy).2
      rw [e] at hx'
      injection hx' with hx'
      omega
  exact ⟨ho, keep h.2.1 h.2.2.2.1, fun i hi => keep (h.2.2.1 i hi) (h.2.2.2.2.1 i hi).1, dn h.2.1 h.2.2.2.1, fun i hi => ⟨dn (h.2.2.1 i hi) (h.2.2.2.2.1 i hi).1, (h.2.2.2.2.1 i hi).2⟩, h.2.2.2.2.2⟩
end Go.Proofs.Ytabkjjbhnapgpaa
