/- Contracts of the model's draws of labels, over this seat's translation: each answers some short list of short labels in new memory and writes nothing that was there but the cursor. -/
import Derived.Test.YtpbcgfgjdimpmaaDoorCur
import Derived.Maps.Range
namespace Go.Proofs.YtpbcgfgjdimpmaaDoor
open Go.RowKit Go.Deep

theorem fresh_texts (w : World) (l : List ByteArray) (t : TypeId) : ∀ i (hi : i < l.length), (w.alloc (.cells (l.map Value.string).toArray t)).cell? ⟨w.heap.size, i, none⟩ = some (.string l[i]) := by
  intro i hi
  have e := blk_alloc_new w (.cells (l.map Value.string).toArray t)
  simp only [World.cell?, e]
  simp [hi]

theorem name52 (w : World) (B : Nat) (ao : Option Addr) (n cap k : Nat) (h : Cur w B ao n cap k) (hn : n ≤ 1048576) (hk : k ≤ 9000000) :
    Calls Tryd.prog 77 #[.pointer (some ⟨B, 0, none⟩)] w (Texted w B ao n cap k 1) := by
  have H := Lib.hid h
  clear h
  go_enter Tryd.func77, Tryd.ntmps77
  go_wp2_with fail
  refine (of70 _ B ao n cap k _ _ [⟨#[106, 111, 98]⟩, ⟨#[117, 112]⟩, ⟨#[122, 111, 110, 101]⟩, ⟨#[104, 111, 115, 116]⟩, ⟨#[95, 97]⟩, ⟨#[98, 50]⟩] (H.out.alloc _) hn hk ⟨by decide, by decide, by decide⟩ ⟨_, rfl, H.out.lt, fresh_texts w _ 9⟩).mono ?_
  rintro e w1 ⟨x, hx, rfl, hD⟩
  have HD := Lib.hid (Drawn.trans (i := 0) (j := 1) (World.grownBy_alloc _ _ _) (Nat.le_refl _) hD)
  clear hD
  go_wp2
  go_ret
  exact ⟨x, hx, rfl, by simpa using HD.out⟩

theorem is53 (w : World) (B : Nat) (ao : Option Addr) (n cap k : Nat) (h : Cur w B ao n cap k) (hn : n ≤ 1048576) (hk : k ≤ 9000000) :
    Calls Tryd.prog 122 #[.pointer (some ⟨B, 0, none⟩)] w (Texted w B ao n cap k 1) := by
  have H := Lib.hid h
  clear h
  go_enter Tryd.func122, Tryd.ntmps122
  go_wp2_with fail
  refine (of70 _ B ao n cap k _ _ [⟨#[97]⟩, ⟨#[98]⟩, ⟨#[97, 112, 105]⟩, ⟨#[97, 112, 105, 49]⟩, ⟨#[100, 98]⟩, ⟨#[120, 42, 121]⟩] (H.out.alloc _) hn hk ⟨by decide, by decide, by decide⟩ ⟨_, rfl, H.out.lt, fresh_texts w _ 9⟩).mono ?_
  rintro e w1 ⟨x, hx, rfl, hD⟩
  have HD := Lib.hid (Drawn.trans (i := 0) (j := 1) (World.grownBy_alloc _ _ _) (Nat.le_refl _) hD)
  clear hD
  go_wp2
  go_ret
  exact ⟨x, hx, rfl, by simpa using HD.out⟩

/-- A short list of short labels. -/
def Small (m : Nat) (l : List Lab) : Prop := l.length ≤ m ∧ ∀ x ∈ l, x.1.size ≤ 21 ∧ x.2.size ≤ 21
theorem Small.fit {m : Nat} {l : List Lab} (h : Small m l) (hm : m ≤ 100) : Fit l := ⟨by have := h.1; omega, fun x hx => by have := h.2 x hx; omega⟩
theorem Small.append {m : Nat} {l : List Lab} (h : Small m l) {x : Lab} (h1 : x.1.size ≤ 21) (h2 : x.2.size ≤ 21) : Small (m + 1) (l ++ [x]) := by
  refine ⟨by have := h.1; simp; omega, fun y hy => ?_⟩
  rcases List.mem_append.1 hy with hy | hy
  · exact h.2 y hy
  · obtain rfl := List.mem_singleton.1 hy; exact ⟨h1, h2⟩
theorem Small.more {m m' : Nat} {l : List Lab} (h : Small m l) (hm : m ≤ m') : Small m' l := ⟨by have := h.1; omega, h.2⟩

theorem own_other {w w' : World} {base B : Nat} {e : TypeId} {s : Nat} {v : Value} {n : Nat} {xs : List Value} (h : w.ownsRow base e s v n xs) (hB : B < base) (hg : w.grownBy w' (some B)) : w'.ownsRow base e s v n xs := by
  refine h.kept hg ?_
  cases hv : v.ownBlock with
  | none => exact .inl rfl
  | some k => exact .inr (fun e => by have := (h.lt k hv).1; injection e with e; omega)

theorem own_one {base : Nat} (w : World) (x1 x2 : ByteArray) (hb : base ≤ w.heap.size) : (w.alloc (.cells #[.string x1, .string x2] 82)).ownsRow base 82 2 (.slice (some ⟨w.heap.size, 0, none⟩) 1 1) 1 (cellsOf [(x1, x2)]) :=
  ⟨rfl, .inr ⟨w.heap.size, 1, #[.string x1, .string x2], rfl, hb, blk_alloc_new _ _, Nat.le_refl _, by unfold maxLen; omega, rfl, rfl⟩⟩
theorem Drawn.alloc {w w' : World} {B : Nat} {ao : Option Addr} {n cap k j : Nat} (h : Drawn w w' B ao n cap k j) (o : Obj) : Drawn w (w'.alloc o) B ao n cap k j := by
  obtain ⟨⟨k', hk, hC⟩, hg⟩ := h
  exact ⟨⟨k', hk, hC.alloc o⟩, hg.trans (World.grownBy_alloc _ _ _)⟩
/-- Some labels were drawn. -/
def Labelled (w : World) (B : Nat) (ao : Option Addr) (n cap k j m : Nat) (e : Ending) (w' : World) : Prop :=
  ∃ (v : Value) (l : List Lab), Small m l ∧ e = .returned v ∧ w'.ownsRow w.heap.size 82 2 v l.length (cellsOf l) ∧ Drawn w w' B ao n cap k j

theorem Drawn.stored {w w' : World} {B : Nat} {ao : Option Addr} {n cap k j g : Nat} (h : Drawn w w' B ao n cap k j) (hB : B < w.heap.size) (hg : w.heap.size ≤ g) (i : Nat) (u : Value) : Drawn w (w'.setCell ⟨g, i, none⟩ u) B ao n cap k j := by
  obtain ⟨⟨k', hk, hC⟩, hG⟩ := h
  have hs := grownBy_setCell w' g i u
  exact ⟨⟨k', hk, hC.kept hs (fun q hq => by injection hq with hq; omega)⟩, hG.andThen hs (fun q hq => by injection hq with hq; subst hq; exact .inl hg)⟩
theorem cur_new (w : World) (ao : Option Addr) (n cap : Nat) (h : BRow w w.heap.size ao n) : Cur (w.alloc (.cells #[.slice ao n cap, .int .i64 0, .int .u64 0] 90)) w.heap.size ao n cap 0 :=
  ⟨⟨0, by decide, by decide, blk_alloc_new _ _⟩, h.other (World.grownBy_alloc _ _ _)⟩
/-- What wrote into a new cursor alone wrote nothing that was there. -/
theorem below_cur {w w' : World} {o : Obj} (hg : (w.alloc o).grownBy w' (some w.heap.size)) : Below w.heap.size w w' :=
  ((Below.refl _ w).alloc (Nat.le_refl _) o).grown hg (by simp) (fun k hk => by injection hk with hk; omega)

theorem fresh_texts1 (w : World) (o : Obj) (l : List ByteArray) (t : TypeId) : ∀ i (hi : i < l.length), ((w.alloc o).alloc (.cells (l.map Value.string).toArray t)).cell? ⟨w.heap.size + 1, i, none⟩ = some (.string l[i]) := by
  intro i hi
  have := fresh_texts (w.alloc o) l t i hi
  rwa [show (w.alloc o).heap.size = w.heap.size + 1 by simp] at this
end Go.Proofs.YtpbcgfgjdimpmaaDoor
