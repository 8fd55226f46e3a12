/- Mathematics of marks: lists that rise within bounds, views, marks that are good, what is missing first. No program is spoken of. -/
import Derived.Test.YtabkjjbhnapgpaaRiMath
namespace Go.Proofs.Ytabkjjbhnapgpaa

/-- The first k of a list lie in lo..hi and rise. -/
def upTo (lo hi : Int) (l : List Int) (k : Nat) : Prop := ∀ t, t < k → lo ≤ at0 l t ∧ at0 l t ≤ hi ∧ (0 < t → at0 l (t - 1) < at0 l t)
def Up (lo hi : Int) (l : List Int) : Prop := upTo lo hi l l.length
open Classical in
noncomputable def up (lo hi : Int) (l : List Int) : Bool := decide (Up lo hi l)
open Classical in
theorem up_yes {lo hi : Int} {l : List Int} (h : Up lo hi l) : up lo hi l = true := by unfold up; exact decide_eq_true h
open Classical in
theorem up_no {lo hi : Int} {l : List Int} (h : ¬ Up lo hi l) : up lo hi l = false := by unfold up; exact decide_eq_false h
open Classical in
theorem up_is {lo hi : Int} {l : List Int} (h : up lo hi l = true) : Up lo hi l := by unfold up at h; exact of_decide_eq_true h
theorem upTo_more {lo hi : Int} {l : List Int} {k : Nat} (h : upTo lo hi l k) (h0 : lo ≤ at0 l k) (h1 : at0 l k ≤ hi) (h2 : 0 < k → at0 l (k - 1) < at0 l k) : upTo lo hi l (k + 1) := fun t ht => by
  by_cases e : t = k
  · subst e; exact ⟨h0, h1, h2⟩
  · exact h t (by omega)
theorem up_out {lo hi : Int} {l : List Int} {k : Nat} (hk : k < l.length) (h : at0 l k < lo ∨ hi < at0 l k) : up lo hi l = false := up_no fun g => by have := g k hk; omega
theorem up_flat {lo hi : Int} {l : List Int} {k : Nat} (hk : k + 1 < l.length) (h : at0 l (k + 1) ≤ at0 l k) : up lo hi l = false := up_no fun g => by
  have := (g (k + 1) hk).2.2 (by omega)
  rw [Nat.add_sub_cancel] at this
  omega
theorem Up.rise {lo hi : Int} {l : List Int} (h : Up lo hi l) : upR l := fun k hk => by
  have := (h (k + 1) hk).2.2 (by omega)
  rwa [Nat.add_sub_cancel] at this
theorem Up.mem {lo hi : Int} {l : List Int} (h : Up lo hi l) : ∀ x ∈ l, lo ≤ x ∧ x ≤ hi := fun x hx => by
  obtain ⟨j, hj, rfl⟩ := List.getElem_of_mem hx
  have := h j hj
  rw [at0_get hj] at this
  exact ⟨this.1, this.2.1⟩
theorem Up.of {lo hi : Int} {l : List Int} (h1 : ∀ k, k < l.length → lo ≤ at0 l k ∧ at0 l k ≤ hi) (h2 : upR l) : Up lo hi l := fun t ht => ⟨(h1 t ht).1, (h1 t ht).2, fun h0 => by
  have := h2 (t - 1) (by omega)
  rwa [show t - 1 + 1 = t by omega] at this⟩
theorem Up.ofMem {lo hi : Int} {l : List Int} (h1 : ∀ x ∈ l, lo ≤ x ∧ x ≤ hi) (h2 : upR l) : Up lo hi l := Up.of (fun _ hk => h1 _ (at0_mem hk)) h2

/-- A view: its id, its top, what it hides. -/
abbrev Vc := Int × Int × List Int
def vat (l : List Vc) (k : Nat) : Vc := l.getD k (0, 0, [])
theorem vat_get {l : List Vc} {k : Nat} (hk : k < l.length) : vat l k = l[k] := by simp [vat, List.getD, hk]
def GoodN (last : Int) (l : List Int) : Prop := (0 ≤ last ∧ last ≤ 100000) ∧ l.length ≤ 8 ∧ Up 1 last l
def GoodV (last : Int) (v : Vc) : Prop := 0 ≤ v.1 ∧ (0 ≤ v.2.1 ∧ v.2.1 ≤ last) ∧ v.2.2.length ≤ 8 ∧ Up 1 v.2.1 v.2.2
open Classical in
noncomputable def goodN (last : Int) (l : List Int) : Bool := decide (GoodN last l)
open Classical in
theorem goodN_yes {last : Int} {l : List Int} (h : GoodN last l) : goodN last l = true := by unfold goodN; exact decide_eq_true h
open Classical in
theorem goodN_no {last : Int} {l : List Int} (h : ¬ GoodN last l) : goodN last l = false := by unfold goodN; exact decide_eq_false h
open Classical in
theorem goodN_is {last : Int} {l : List Int} (h : goodN last l = true) : GoodN last l := by unfold goodN at h; exact of_decide_eq_true h
open Classical in
noncomputable def goodV (last : Int) (v : Vc) : Bool := decide (GoodV last v)
open Classical in
theorem goodV_yes {last : Int} {v : Vc} (h : GoodV last v) : goodV last v = true := by unfold goodV; exact decide_eq_true h
open Classical in
theorem goodV_no {last : Int} {v : Vc} (h : ¬ GoodV last v) : goodV last v = false := by unfold goodV; exact decide_eq_false h
open Classical in
theorem goodV_is {last : Int} {v : Vc} (h : goodV last v = true) : GoodV last v := by unfold goodV at h; exact of_decide_eq_true h
theorem GoodV.num {last : Int} {v : Vc} (h : GoodV last v) (hl : last ≤ 100000) : GoodN v.2.1 v.2.2 := ⟨⟨h.2.1.1, by have := h.2.1.2; omega⟩, h.2.2.1, h.2.2.2⟩
/-- The first k views are good, and their ids rise. -/
def vTo (last : Int) (l : List Vc) (k : Nat) : Prop := ∀ t, t < k → GoodV last (vat l t) ∧ (0 < t → (vat l (t - 1)).1 < (vat l t).1)
def GoodMk (last : Int) (op : List Int) (l : List Vc) : Prop := GoodN last op ∧ l.length ≤ 8 ∧ vTo last l l.length
open Classical in
noncomputable def goodMk (last : Int) (op : List Int) (l : List Vc) : Bool := decide (GoodMk last op l)
open Classical in
theorem goodMk_yes {last : Int} {op : List Int} {l : List Vc} (h : GoodMk last op l) : goodMk last op l = true := by unfold goodMk; exact decide_eq_true h
open Classical in
theorem goodMk_no {last : Int} {op : List Int} {l : List Vc} (h : ¬ GoodMk last op l) : goodMk last op l = false := by unfold goodMk; exact decide_eq_false h
open Classical in
theorem goodMk_is {last : Int} {op : List Int} {l : List Vc} (h : goodMk last op l = true) : GoodMk last op l := by unfold goodMk at h; exact of_decide_eq_true h
theorem vTo_more {last : Int} {l : List Vc} {k : Nat} (h : vTo last l k) (h0 : GoodV last (vat l k)) (h2 : 0 < k → (vat l (k - 1)).1 < (vat l k).1) : vTo last l (k + 1) := fun t ht => by
  by_cases e : t = k
  · subst e; exact ⟨h0, h2⟩
  · exact h t (by omega)
def ids (l : List Vc) : List Int := l.map fun v => v.1
theorem ids_len (l : List Vc) : (ids l).length = l.length := by simp [ids]
theorem ids_at {l : List Vc} {k : Nat} (hk : k < l.length) : at0 (ids l) k = (vat l k).1 := by rw [at0_get (by rw [ids_len]; exact hk), vat_get hk]; simp [ids]
theorem GoodMk.rise {last : Int} {op : List Int} {l : List Vc} (h : GoodMk last op l) : upR (ids l) := fun k hk => by
  rw [ids_len] at hk
  have := (h.2.2 (k + 1) hk).2 (by omega)
  rw [Nat.add_sub_cancel] at this
  rwa [ids_at hk, ids_at (by omega)]
theorem GoodMk.of {last : Int} {op : List Int} {l : List Vc} (h1 : GoodN last op) (h2 : l.length ≤ 8) (h3 : ∀ k, k < l.length → GoodV last (vat l k)) (h4 : upR (ids l)) : GoodMk last op l :=
  ⟨h1, h2, fun t ht => ⟨h3 t ht, fun h0 => by
    have := h4 (t - 1) (by rw [ids_len]; omega)
    rw [show t - 1 + 1 = t by omega, ids_at (by omega), ids_at ht] at this
    exact this⟩⟩

/-- The least number from 1 on that has not ended. -/
def fm (last : Int) (l : List Int) : Int := match l with | [] => last + 1 | x :: _ => x
theorem fm_nil (last : Int) : fm last [] = last + 1 := rfl
theorem fm_cons {last : Int} {l : List Int} (h : 0 < l.length) : fm last l = at0 l 0 := by
  cases l with
  | nil => simp at h
  | cons x l => simp [fm, at0]
theorem fm_in {last : Int} {l : List Int} (h : GoodN last l) : 1 ≤ fm last l ∧ fm last l ≤ last + 1 := by
  by_cases hp : 0 < l.length
  · rw [fm_cons hp]
    have := h.2.2 0 hp
    omega
  · obtain rfl : l = [] := List.eq_nil_of_length_eq_zero (by omega)
    rw [fm_nil]
    have := h.1
    omega
/-- What must be kept: behind the first k views. -/
def keepK (b : Int) (l : List Vc) (k : Nat) : Int := (l.take k).foldl (fun b v => min b (fm v.2.1 v.2.2)) b
theorem keepK_zero (b : Int) (l : List Vc) : keepK b l 0 = b := by simp [keepK]
theorem keepK_snoc {b : Int} {l : List Vc} {k : Nat} (hk : k < l.length) : keepK b l (k + 1) = min (keepK b l k) (fm (vat l k).2.1 (vat l k).2.2) := by
  unfold keepK; rw [List.take_succ_eq_append_getElem hk, List.foldl_append, vat_get hk]; rfl
/-- Is a number seen? -/
def seesM (top : Int) (hide : List Int) (id : Int) : Bool := decide (1 ≤ id ∧ id ≤ top) && !decide (id ∈ hide)
/-- The first place from which on a number is x at least. -/
def fge (l : List Int) (x : Int) : Nat := (l.takeWhile fun y => decide (y < x)).length
theorem fge_le (l : List Int) (x : Int) : fge l x ≤ l.length := by
  unfold fge
  have := List.takeWhile_prefix (l := l) (fun y => decide (y < x))
  exact this.length_le
theorem fge_below : ∀ {l : List Int} {x : Int} {t : Nat}, t < fge l x → at0 l t < x
  | [], x, t, h => by simp [fge] at h
  | y :: l, x, 0, h => by
    unfold fge at h
    rw [List.takeWhile_cons] at h
    by_cases e : y < x
    · simpa [at0] using e
    · simp [e] at h
  | y :: l, x, t + 1, h => by
    unfold fge at h
    rw [List.takeWhile_cons] at h
    by_cases e : y < x
    · simp [e] at h
      have := fge_below (l := l) (x := x) (t := t) h
      simpa [at0] using this
    · simp [e] at h
theorem fge_at : ∀ {l : List Int} {x : Int}, fge l x < l.length → x ≤ at0 l (fge l x)
  | [], x, h => by simp [fge] at h
  | y :: l, x, h => by
    unfold fge at h ⊢
    rw [List.takeWhile_cons] at h ⊢
    by_cases e : y < x
    · simp [e] at h ⊢
      have := fge_at (l := l) (x := x) h
      simpa [at0, fge] using this
    · simp [e, at0]; omega
theorem fge_is {l : List Int} {x : Int} {k : Nat} (hk : k ≤ l.length) (h1 : ∀ t, t < k → at0 l t < x) (h2 : k < l.length → x ≤ at0 l k) : fge l x = k := by
  rcases Nat.lt_trichotomy (fge l x) k with h | h | h
  · have a := h1 _ h
    have b := fge_at (l := l) (x := x) (by omega)
    omega
  · exact h
  · have a := fge_below h
    have b := h2 (by have := fge_le l x; omega)
    omega
/-- Whether x stands at its place. -/
def fis (l : List Int) (x : Int) : Bool := decide (fge l x < l.length ∧ at0 l (fge l x) = x)
theorem fis_mem {l : List Int} {x : Int} (h : upR l) : fis l x = decide (x ∈ l) := by
  unfold fis
  have hs := srch_at (l := l) (x := x) (i := fge l x) (fun t ht => fge_below ht) (fun t h1 h2 => by
    have a := fge_at (l := l) (x := x) (by omega)
    by_cases e : fge l x = t
    · rw [← e]; exact a
    · have := upR_lt h (i := fge l x) (j := t) (by omega) h2; omega) h
  exact decide_eq_decide.2 hs.symm
end Go.Proofs.Ytabkjjbhnapgpaa
