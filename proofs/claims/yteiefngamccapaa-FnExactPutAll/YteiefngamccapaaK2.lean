/- Mathematics of chunks, ahead of chapter 5: values by the bits that differ from the one ahead, turned round; samples as bytes, and back. No program is spoken of. -/
import Derived.Test.YteiefngamccapaaK1
import Derived.Deep.Slices
import Derived.OpenShut
import Derived.Laws.OwnMore
import Derived.Deep.AppendLies
import Derived.Deep.Draws
import Derived.Below
import Derived.Deep.OwnRows
import Derived.Maps.AppendAt
namespace Go.Proofs.Yteiefngamccapaa

theorem xor_lt64 {a b : Nat} (ha : a < 18446744073709551616) (hb : b < 18446744073709551616) : a ^^^ b < 18446744073709551616 := by
  have e : (18446744073709551616 : Nat) = 2 ^ 64 := by decide
  rw [e] at ha hb ⊢
  exact Nat.xor_lt_two_pow ha hb
/-- The bits in which each differs from the one ahead, turned round. -/
def xc : Nat → List Nat → List Nat
  | _, [] => []
  | p, b :: r => flipN (b ^^^ p) :: xc b r
def xd : Nat → List Nat → List Nat
  | _, [] => []
  | p, u :: r => (p ^^^ flipN u) :: xd (p ^^^ flipN u) r
theorem xc_len : ∀ (p : Nat) (l : List Nat), (xc p l).length = l.length
  | _, [] => rfl
  | p, b :: r => by rw [xc, List.length_cons, List.length_cons, xc_len b r]
theorem xd_len : ∀ (p : Nat) (l : List Nat), (xd p l).length = l.length
  | _, [] => rfl
  | p, u :: r => by rw [xd, List.length_cons, List.length_cons, xd_len _ r]
theorem xc_fit : ∀ (p : Nat) (l : List Nat), Fit64 (xc p l)
  | _, [] => fun u hu => by simp [xc] at hu
  | p, b :: r => fun u hu => by
    rw [xc] at hu
    rcases List.mem_cons.1 hu with rfl | hu
    · exact flipN_lt _
    · exact xc_fit b r u hu
theorem xd_fit : ∀ {p : Nat} {l : List Nat}, p < 18446744073709551616 → Fit64 (xd p l)
  | _, [], _ => fun u hu => by simp [xd] at hu
  | p, b :: r, hp => fun u hu => by
    rw [xd] at hu
    have h1 := xor_lt64 hp (flipN_lt b)
    rcases List.mem_cons.1 hu with rfl | hu
    · exact h1
    · exact xd_fit h1 u hu
theorem xd_xc : ∀ {p : Nat} {l : List Nat}, p < 18446744073709551616 → Fit64 l → xd p (xc p l) = l
  | _, [], _, _ => rfl
  | p, b :: r, hp, hl => by
    have hb := hl b (List.mem_cons_self ..)
    have e : p ^^^ flipN (flipN (b ^^^ p)) = b := by
      rw [flipN_flip (xor_lt64 hb hp), Nat.xor_comm b p, ← Nat.xor_assoc, Nat.xor_self, Nat.zero_xor]
    rw [xc, xd, e, xd_xc hb (fun x hx => hl x (List.mem_cons_of_mem _ hx))]
theorem xc_xd : ∀ {p : Nat} {l : List Nat}, p < 18446744073709551616 → Fit64 l → xc p (xd p l) = l
  | _, [], _, _ => rfl
  | p, u :: r, hp, hl => by
    have hu := hl u (List.mem_cons_self ..)
    have e : flipN ((p ^^^ flipN u) ^^^ p) = u := by
      rw [Nat.xor_comm p, Nat.xor_assoc, Nat.xor_self, Nat.xor_zero, flipN_flip hu]
    rw [xd, xc, e, xc_xd (xor_lt64 hp (flipN_lt u)) (fun x hx => hl x (List.mem_cons_of_mem _ hx))]
/-- One value more. -/
theorem xc_snoc : ∀ (p : Nat) (l : List Nat) (b : Nat), xc p (l ++ [b]) = xc p l ++ [flipN (b ^^^ (p :: l).getLast (by simp))]
  | p, [], b => by simp [xc]
  | p, c :: r, b => by
    rw [List.cons_append, xc, xc, xc_snoc c r b, List.cons_append]
    have e : (p :: c :: r).getLast (by simp) = (c :: r).getLast (by simp) := List.getLast_cons (by simp)
    rw [e]
theorem xd_snoc : ∀ (p : Nat) (l : List Nat) (u : Nat), xd p (l ++ [u]) = xd p l ++ [(p :: xd p l).getLast (by simp) ^^^ flipN u]
  | p, [], u => by simp [xd]
  | p, c :: r, u => by
    rw [List.cons_append, xd, xd, xd_snoc _ r u, List.cons_append]
    have e : (p :: (p ^^^ flipN c) :: xd (p ^^^ flipN c) r).getLast (by simp) = ((p ^^^ flipN c) :: xd (p ^^^ flipN c) r).getLast (by simp) := List.getLast_cons (by simp)
    rw [e]

theorem whole_front {us vs : List Nat} {r r' : List UInt8} (h : whole us ++ r = whole vs ++ r') : us = vs ∧ r = r' := by
  unfold whole at h
  rw [List.append_assoc, List.append_assoc] at h
  obtain ⟨e1, e2⟩ := put_front h
  exact byS_front e1 e2
theorem enc_front {l l' : List Int} {r r' : List UInt8} (hl : ∀ x ∈ l, In64 x) (hl' : ∀ x ∈ l', In64 x) (h : enc l ++ r = enc l' ++ r') : l = l' ∧ r = r' := by
  obtain ⟨e1, e2⟩ := whole_front h
  have e3 := congrArg decode e1
  rw [decode_code hl, decode_code hl'] at e3
  exact ⟨e3, e2⟩

/-- A sample: its time, and its value's bits. -/
abbrev Smp := Int × Nat
def FitS (l : List Smp) : Prop := ∀ x ∈ l, In64 x.1 ∧ x.2 < 18446744073709551616
/-- The bytes of samples, of at least one. -/
def packB (l : List Smp) : List UInt8 := enc (l.map (·.1)) ++ byS (xc 0 (l.map (·.2)))
theorem fit_times {l : List Smp} (h : FitS l) : ∀ x ∈ l.map (·.1), In64 x := by
  intro x hx
  obtain ⟨y, hy, rfl⟩ := List.mem_map.1 hx
  exact (h y hy).1
theorem fit_vals {l : List Smp} (h : FitS l) : Fit64 (l.map (·.2)) := by
  intro x hx
  obtain ⟨y, hy, rfl⟩ := List.mem_map.1 hx
  exact (h y hy).2
theorem smp_ext : ∀ {l l' : List Smp}, l.map (·.1) = l'.map (·.1) → l.map (·.2) = l'.map (·.2) → l = l'
  | [], [], _, _ => rfl
  | [], _ :: _, h, _ => by simp at h
  | _ :: _, [], h, _ => by simp at h
  | (a, b) :: l, (a', b') :: l', h1, h2 => by
    simp only [List.map_cons, List.cons.injEq] at h1 h2
    obtain ⟨rfl, h1⟩ := h1
    obtain ⟨rfl, h2⟩ := h2
    rw [smp_ext h1 h2]
/-- Samples are told apart by their bytes. -/
theorem packB_one {l l' : List Smp} (h : FitS l) (h' : FitS l') (he : packB l = packB l') : l = l' := by
  unfold packB at he
  obtain ⟨e1, e2⟩ := enc_front (fit_times h) (fit_times h') he
  have hlen : l.length = l'.length := by have := congrArg List.length e1; simpa using this
  obtain ⟨e3, _⟩ := byS_front (us := xc 0 (l.map (·.2))) (vs := xc 0 (l'.map (·.2))) (r := []) (r' := []) (by rw [xc_len, xc_len, List.length_map, List.length_map, hlen]) (by rw [e2])
  have e4 := congrArg (xd 0) e3
  rw [xd_xc (by decide) (fit_vals h), xd_xc (by decide) (fit_vals h')] at e4
  exact smp_ext e1 e4
theorem packB_len {l : List Smp} (h : FitS l) (hl : l.length ≤ 1048576) : (packB l).length ≤ 10 + 20 * l.length := by
  unfold packB
  have h1 := encK_len (l := l.map (·.1)) (fit_times h) (by simpa using hl) (l.map (·.1)).length
  rw [encK_all] at h1
  have h2 := byS_len (us := xc 0 (l.map (·.2))) (xc_fit 0 _)
  rw [xc_len, List.length_map] at h2
  rw [List.length_map] at h1
  rw [List.length_append]
  omega

/-- Times within bounds that rise. -/
def goodS : List Smp → Bool
  | [] => true
  | [x] => decide (-1000000 ≤ x.1) && decide (x.1 ≤ 1000000)
  | x :: y :: r => decide (-1000000 ≤ x.1) && decide (x.1 < y.1) && goodS (y :: r)
theorem goodS_iff (l : List Smp) : goodS l = true ↔ ∀ i (hi : i < l.length), (-1000000 ≤ l[i].1 ∧ l[i].1 ≤ 1000000) ∧ (∀ hj : i + 1 < l.length, l[i].1 < l[i + 1].1) := by
  induction l with
  | nil => simp [goodS]
  | cons x r ih =>
    cases r with
    | nil =>
      simp only [goodS, Bool.and_eq_true, decide_eq_true_eq, List.length_cons, List.length_nil]
      constructor
      · intro h i hi
        obtain rfl : i = 0 := by omega
        exact ⟨h, fun hj => by omega⟩
      · intro h; exact (h 0 (by omega)).1
    | cons y r =>
      simp only [goodS, Bool.and_eq_true, decide_eq_true_eq]
      rw [ih]
      constructor
      · rintro ⟨⟨h1, h2⟩, h3⟩ i hi
        cases i with
        | zero =>
          have h4 := (h3 0 (by simp)).1
          simp only [List.getElem_cons_zero, List.getElem_cons_succ] at h4 ⊢
          exact ⟨⟨h1, by omega⟩, fun _ => h2⟩
        | succ i =>
          have h4 := h3 i (by simpa using hi)
          simpa using h4
      · intro h
        have h0 := h 0 (by simp)
        have h01 := h0.2 (by simp)
        simp only [List.getElem_cons_zero, List.getElem_cons_succ] at h0 h01
        refine ⟨⟨h0.1.1, h01⟩, fun i hi => ?_⟩
        have h4 := h (i + 1) (by simpa using hi)
        simpa using h4
theorem goodS_take {l : List Smp} (h : goodS l = true) (k : Nat) : goodS (l.take k) = true := by
  rw [goodS_iff] at h ⊢
  intro i hi
  rw [List.length_take] at hi
  have h1 := h i (by omega)
  refine ⟨by simpa using h1.1, fun hj => ?_⟩
  rw [List.length_take] at hj
  simpa using h1.2 (by omega)
theorem goodS_drop {l : List Smp} (h : goodS l = true) (k : Nat) : goodS (l.drop k) = true := by
  rw [goodS_iff] at h ⊢
  intro i hi
  rw [List.length_drop] at hi
  have h1 := h (k + i) (by omega)
  refine ⟨by simpa using h1.1, fun hj => ?_⟩
  rw [List.length_drop] at hj
  have := h1.2 (by omega)
  simpa [Nat.add_assoc] using this
/-- What a chunk holds: its bytes, how many they are, the first time and the last one. -/
def packC (l : List Smp) : List UInt8 × Int × Int × Int :=
  match l with
  | [] => ([], 0, 0, 0)
  | x :: r => (packB (x :: r), (x :: r).length, x.1, ((x :: r).getLast (by simp)).1)
theorem packC_one {l l' : List Smp} (h : FitS l) (h' : FitS l') (he : packC l = packC l') : l = l' := by
  cases l with
  | nil =>
    cases l' with
    | nil => rfl
    | cons x r =>
      have := congrArg (fun q => q.2.1) he
      simp [packC] at this; omega
  | cons x r =>
    cases l' with
    | nil =>
      have := congrArg (fun q => q.2.1) he
      simp [packC] at this; omega
    | cons y r' =>
      have := congrArg (fun q => q.1) he
      exact packB_one h h' this
end Go.Proofs.Yteiefngamccapaa
namespace Go.Proofs.Yteiefngamccapaa
open Go.RowKit Go.Deep

/-- A slice of bytes below block B. -/
def BRow (w : World) (B : Nat) (ao : Option Addr) (n : Nat) : Prop :=
  0 < n → ∃ b off, ao = some ⟨b, off, none⟩ ∧ b < B ∧ ∀ i, i < n → ∃ z : Int, 0 ≤ z ∧ z ≤ 255 ∧ w.cell? ⟨b, off + i, none⟩ = some (.int .u8 z)

/-- The cursor in block B: it reads n bytes, and stands at place k. -/
def Cur (w : World) (B : Nat) (ao : Option Addr) (n cap k : Nat) : Prop :=
  (∃ s : Int, 0 ≤ s ∧ s ≤ 18446744073709551615 ∧ w.heap[B]? = some (.cells #[.slice ao n cap, .int .i64 k, .int .u64 s] 161 (0, 0))) ∧ BRow w B ao n

theorem BRow.other {w w' : World} {B : Nat} {ao : Option Addr} {n : Nat} (h : BRow w B ao n) (hg : w.grownBy w' (some B)) : BRow w' B ao n := fun hp => by
  obtain ⟨b, off, e, hb, hc⟩ := h hp
  refine ⟨b, off, e, hb, fun i hi => ?_⟩
  obtain ⟨z, h0, h1, h2⟩ := hc i hi
  exact ⟨z, h0, h1, hg.cell h2 (by simp; omega)⟩

theorem grownBy_drewN (w : World) (q : Nat) (row : Option Nat) : w.grownBy (w.drewN q) row := by
  induction q with
  | zero => exact World.grownBy.refl _ _
  | succ q ih => exact ih.trans ⟨rfl, rfl, rfl, Nat.le_refl _, fun _ _ _ => rfl⟩

theorem grownBy_setCell (w : World) (B i : Nat) (v : Value) : w.grownBy (w.setCell ⟨B, i, none⟩ v) (some B) :=
  ⟨rfl, rfl, rfl, by simp [World.setCell], fun k _ hne => Below.heap_setCell _ _ _ _ (fun e => hne (by simp [e]))⟩

theorem cur_step {w : World} {B : Nat} {ao : Option Addr} {n cap k : Nat} {s : Int} (hb : w.heap[B]? = some (.cells #[.slice ao n cap, .int .i64 k, .int .u64 s] 161 (0, 0))) (hr : BRow w B ao n) (a c : Nat) (t : Int) (h0 : 0 ≤ t) (h1 : t ≤ 18446744073709551615) :
    Cur ((((w.drewN a).setCell ⟨B, 1, none⟩ (.int .i64 (k + 1))).setCell ⟨B, 2, none⟩ (.int .u64 t)).drewN c) B ao n cap (k + 1) ∧ w.grownBy ((((w.drewN a).setCell ⟨B, 1, none⟩ (.int .i64 (k + 1))).setCell ⟨B, 2, none⟩ (.int .u64 t)).drewN c) (some B) := by
  have hg : w.grownBy ((((w.drewN a).setCell ⟨B, 1, none⟩ (.int .i64 (k + 1))).setCell ⟨B, 2, none⟩ (.int .u64 t)).drewN c) (some B) :=
    (((grownBy_drewN _ _ _).trans (grownBy_setCell _ _ _ _)).trans (grownBy_setCell _ _ _ _)).trans (grownBy_drewN _ _ _)
  refine ⟨⟨⟨t, h0, h1, ?_⟩, hr.other hg⟩, hg⟩
  simp [World.setCell, Array.getElem?_modify, hb]

theorem wrapu_bounds (x : Int) : 0 ≤ IntKind.u64.wrap x ∧ IntKind.u64.wrap x ≤ 18446744073709551615 := by rw [IntKind.wrap_u64]; omega

theorem low8 (x : Int) (h0 : 0 ≤ x) (h1 : x ≤ 18446744073709551615) : 0 ≤ RowKit.wrap64 (bits BinOp.and IntKind.u64 x 255) ∧ RowKit.wrap64 (bits BinOp.and IntKind.u64 x 255) ≤ 255 := by
  have h := bits_and_u64_nat x.toNat 255 (by omega) (by omega)
  rw [show (255 : Nat) = 2 ^ 8 - 1 from rfl, Nat.and_two_pow_sub_one_eq_mod, Int.toNat_of_nonneg h0] at h
  have e : bits BinOp.and IntKind.u64 x 255 = ((x.toNat % 2 ^ 8 : Nat) : Int) := h
  rw [e]
  unfold RowKit.wrap64
  omega

/-- What a call that draws leaves: some place further on, and what it has made. -/
def Drawn (w w' : World) (B : Nat) (ao : Option Addr) (n cap k j : Nat) : Prop := (∃ k', k' ≤ k + j ∧ Cur w' B ao n cap k') ∧ w.grownBy w' (some B)

def Picked (w : World) (B : Nat) (ao : Option Addr) (n cap k j : Nat) (m : Int) (e : Ending) (w' : World) : Prop :=
  ∃ r : Int, 0 ≤ r ∧ r < m ∧ e = .returned (.int .i64 r) ∧ Drawn w w' B ao n cap k j

theorem Drawn.trans {a b c : World} {B : Nat} {ao : Option Addr} {n cap k i k' j : Nat} (h : a.grownBy b (some B)) (hk : k' ≤ k + i) (h2 : Drawn b c B ao n cap k' j) : Drawn a c B ao n cap k (i + j) := by
  obtain ⟨⟨k2, hk2, hc⟩, hg⟩ := h2
  exact ⟨⟨k2, by omega, hc⟩, h.trans hg⟩
theorem Cur.lt {w : World} {B : Nat} {ao : Option Addr} {n cap k : Nat} (h : Cur w B ao n cap k) : B < w.heap.size := by
  obtain ⟨⟨s, _, _, hb⟩, _⟩ := h
  exact (Array.getElem?_eq_some_iff.1 hb).1
theorem Cur.alloc {w : World} {B : Nat} {ao : Option Addr} {n cap k : Nat} (h : Cur w B ao n cap k) (o : Obj) : Cur (w.alloc o) B ao n cap k := by
  have hl := h.lt
  obtain ⟨⟨s, h0, h1, hb⟩, hr⟩ := h
  exact ⟨⟨s, h0, h1, by rw [Below.heap_alloc _ _ _ hl]; exact hb⟩, hr.other (World.grownBy_alloc _ _ _)⟩
theorem Cur.kept {w w' : World} {B : Nat} {ao : Option Addr} {n cap k : Nat} {row : Option Nat} (h : Cur w B ao n cap k) (hg : w.grownBy w' row) (hr : ∀ g, row = some g → B < g) : Cur w' B ao n cap k := by
  have hl := h.lt
  obtain ⟨⟨s, h0, h1, hb⟩, hrow⟩ := h
  refine ⟨⟨s, h0, h1, ?_⟩, fun hp => ?_⟩
  · rw [hg.block B hl (fun e => by have := hr B e.symm; omega)]; exact hb
  · obtain ⟨b, off, e, hbl, hc⟩ := hrow hp
    refine ⟨b, off, e, hbl, fun i hi => ?_⟩
    obtain ⟨z, z0, z1, z2⟩ := hc i hi
    exact ⟨z, z0, z1, hg.cell z2 (fun e => by have := hr b e.symm; omega)⟩
theorem Cur.below {w w' : World} {B : Nat} {ao : Option Addr} {n cap k : Nat} (h : Cur w B ao n cap k) (hb : Below w.heap.size w w') : Cur w' B ao n cap k := h.kept (row := none) (gb_below hb) (fun g hg => by cases hg)

/-- Whether once in m times. -/
def OneOf (w : World) (B : Nat) (ao : Option Addr) (n cap k j : Nat) (e : Ending) (w' : World) : Prop :=
  ∃ b : Bool, e = .returned (.bool b) ∧ Drawn w w' B ao n cap k j
/-- Some short text was drawn. -/
def Texted (w : World) (B : Nat) (ao : Option Addr) (n cap k j : Nat) (e : Ending) (w' : World) : Prop :=
  ∃ x : ByteArray, x.size ≤ 20 ∧ e = .returned (.string x) ∧ Drawn w w' B ao n cap k j
/-- Short texts in a new block. -/
def ShortT (l : List ByteArray) : Prop := 0 < l.length ∧ l.length ≤ 100 ∧ ∀ x ∈ l, x.size ≤ 20
end Go.Proofs.Yteiefngamccapaa
namespace Go.Proofs.Yteiefngamccapaa
open Go.RowKit Go.Deep Go.ChangeShapes Go.WideShapes Go.ChangeAt

/-- A slice of numbers below block B. -/
def IRow (w : World) (B : Nat) (ao : Option Addr) (xs : List Int) : Prop :=
  (∀ x ∈ xs, In64 x) ∧ (0 < xs.length → ∃ b off, ao = some ⟨b, off, none⟩ ∧ b < B ∧ ∀ i (hi : i < xs.length), w.cell? ⟨b, off + i, none⟩ = some (.int .i64 xs[i]))
theorem IRow.after {w w' : World} {ao : Option Addr} {xs : List Int} (h : IRow w w.heap.size ao xs) (hb : Below w.heap.size w w') : IRow w' w'.heap.size ao xs :=
  ⟨h.1, fun hp => by
    obtain ⟨b, off, e, hl, hc⟩ := h.2 hp
    exact ⟨b, off, e, Nat.lt_of_lt_of_le hl hb.size, fun i hi => (hb.cell (p := ⟨b, off + i, none⟩) hl).trans (hc i hi)⟩⟩
theorem IRow.of_own {w : World} {base : Nat} {v : Value} {xs : List Int} (hx : ∀ x ∈ xs, In64 x) (h : w.ownsRow base 3 1 v xs.length (xs.map (Value.int .i64))) : ∃ ao cap, v = .slice ao xs.length cap ∧ IRow w w.heap.size ao xs := by
  obtain ⟨_, ⟨rfl, hn⟩ | ⟨g, cap, cur, rfl, hge, hh, hle, _, hsz, htk⟩⟩ := h
  · exact ⟨none, 0, by rw [hn], hx, fun hp => by omega⟩
  · refine ⟨_, cap, rfl, hx, fun hp => ⟨g, 0, rfl, (Array.getElem?_eq_some_iff.1 hh).1, fun i hi => ?_⟩⟩
    have e : cur.toList[i]? = some (.int .i64 xs[i]) := by
      have h2 : (cur.toList.take (xs.length * 1))[i]? = cur.toList[i]? := by rw [List.getElem?_take, if_pos (by omega)]
      rw [← h2, htk]
      simp [hi]
    have e' : cur[i]? = some (.int .i64 xs[i]) := by simpa using e
    rw [Nat.zero_add]
    simp [World.cell?, hh, e']

section
variable {H : Type} {enc : TypeId × Value → H} {P : Program} {w : World} {base : Nat} {spare : Nat → Bool} {held : Bool}

theorem open_bytes {t e : TypeId} {v : Value} {d : DataW H} {ps : List MemPlace} (ht : P.underlying t = some (.slice e)) (he : P.underlying e = some (.int .u8)) (hc : P.cellsOf e = 1)
    (hv : ∃ a l c, v = .slice a l c) (h : DataW.Trod enc P w base spare held t v d ps) : ∃ ao cap n, v = .slice ao n cap ∧ BRow w w.heap.size ao n := by
  obtain ⟨a, l, c, rfl⟩ := hv
  obtain ⟨fuel, hf⟩ := h
  rcases open_slice1 ht hc hf with ⟨hcs, _⟩ | ⟨a', len, cap, m, n, V, D, Pl, hcs, _, hl, _, hm, _, hx⟩
  · simp [Value.cells] at hcs
    obtain ⟨rfl, rfl, rfl⟩ := hcs
    exact ⟨none, 0, 0, rfl, fun hp => by omega⟩
  · simp [Value.cells] at hcs
    obtain ⟨rfl, rfl, rfl⟩ := hcs
    have hlm : l ≤ m := by rw [hm]; split <;> omega
    refine ⟨some a', c, l, rfl, fun hp => ?_⟩
    obtain ⟨b, off, spot⟩ := a'
    have h0 := (hx 0 (by omega)).1
    have hs : spot = none := by simpa [Addr.add] using World.cell?_spot h0
    subst hs
    refine ⟨b, off, rfl, ?_, fun i hi => ?_⟩
    · have : w.cell? ⟨b, off, none⟩ = some (V 0) := by simpa [Addr.add] using h0
      exact World.block_lt_of_cell? w _ this
    · obtain ⟨hi', hr⟩ := hx i (by omega)
      rw [add_plain] at hi'
      obtain ⟨z, hz, _, hw⟩ := DataW.trod_int he hr
      simp at hz
      have hb := bounds_u8 hw
      exact ⟨z, hb.1, hb.2, by rw [hi', hz]⟩
theorem open_intsl {t e : TypeId} {v : Value} {d : DataW H} {ps : List MemPlace} (ht : P.underlying t = some (.slice e)) (he : P.underlying e = some (.int .i64)) (hc : P.cellsOf e = 1)
    (hv : ∃ a l c, v = .slice a l c) (h : DataW.Trod enc P w base spare held t v d ps) : ∃ ao cap xs, v = .slice ao xs.length cap ∧ IRow w w.heap.size ao xs := by
  obtain ⟨a, l, c, rfl⟩ := hv
  obtain ⟨fuel, hf⟩ := h
  rcases open_slice1 ht hc hf with ⟨hcs, _⟩ | ⟨a', len, cap, m, n, V, D, Pl, hcs, _, hl, _, hm, _, hx⟩
  · simp [Value.cells] at hcs
    obtain ⟨rfl, rfl, rfl⟩ := hcs
    exact ⟨none, 0, [], rfl, fun x hx => by simp at hx, fun hp => by simp at hp⟩
  · simp [Value.cells] at hcs
    obtain ⟨rfl, rfl, rfl⟩ := hcs
    have hlm : l ≤ m := by rw [hm]; split <;> omega
    obtain ⟨B, hB⟩ := choose_lt (α := Int) (n := l) (p := fun i b => V i = .int .i64 b ∧ In64 b) (fun i hi => by
      obtain ⟨z, hz, _, hw⟩ := DataW.trod_int he (hx i (by omega)).2
      simp at hz
      exact ⟨z, hz, bounds_i64 hw⟩)
    refine ⟨some a', c, (List.range l).map B, by simp, ?_, ?_⟩
    · intro x hx
      simp at hx
      obtain ⟨i, hi, rfl⟩ := hx
      exact (hB i hi).2
    · intro hp
      simp at hp
      obtain ⟨b, off, spot⟩ := a'
      have h0 := (hx 0 (by omega)).1
      have hs : spot = none := by simpa [Addr.add] using World.cell?_spot h0
      subst hs
      refine ⟨b, off, rfl, ?_, ?_⟩
      · have : w.cell? ⟨b, off, none⟩ = some (V 0) := by simpa [Addr.add] using h0
        exact World.block_lt_of_cell? w _ this
      · intro i hi
        simp at hi
        have hi' := (hx i (by omega)).1
        rw [add_plain] at hi'
        rw [hi', (hB i hi).1]
        simp
end
theorem BRow.after {w w' : World} {ao : Option Addr} {n : Nat} (h : BRow w w.heap.size ao n) (hb : Below w.heap.size w w') : BRow w' w'.heap.size ao n := fun hp => by
  obtain ⟨b, off, e, hl, hc⟩ := h hp
  refine ⟨b, off, e, Nat.lt_of_lt_of_le hl hb.size, fun i hi => ?_⟩
  obtain ⟨z, z0, z1, z2⟩ := hc i hi
  exact ⟨z, z0, z1, (hb.cell (p := ⟨b, off + i, none⟩) hl).trans z2⟩
theorem ret_bool {a b : Bool} (h : a = b) : Ending.returned (.bool a) = .returned (.bool b) := by rw [h]
end Go.Proofs.Yteiefngamccapaa
namespace Go.Proofs.Yteiefngamccapaa
open Go.RowKit Go.Deep Go.WideShapes

theorem run_store_float {P : Program} (a : Addr) (m : Mode) (w : World) (x : Nat) : (store a (.float .f64 x) m).run P w = stored P w a (.float .f64 x) m := run_store P w a _ m rfl

/-- How samples lie in memory. -/
def cellsS (l : List Smp) : List Value := l.flatMap fun x => [.int .i64 x.1, .float .f64 x.2]
theorem cellsS_length (l : List Smp) : (cellsS l).length = l.length * 2 := by
  induction l with
  | nil => rfl
  | cons x l ih =>
    simp only [cellsS] at ih
    simp only [cellsS, List.flatMap_cons, List.length_append, List.length_cons, ih, List.length_nil]
    omega
theorem cellsS_append (a b : List Smp) : cellsS (a ++ b) = cellsS a ++ cellsS b := by simp [cellsS]
theorem cellsS_t {l : List Smp} {k : Nat} (hk : k < l.length) : (cellsS l)[k * 2]? = some (.int .i64 l[k].1) := by
  induction l generalizing k with
  | nil => simp at hk
  | cons x l ih =>
    cases k with
    | zero => rfl
    | succ k =>
      have := ih (k := k) (by simpa using hk)
      simpa [cellsS, Nat.succ_mul] using this
theorem cellsS_v {l : List Smp} {k : Nat} (hk : k < l.length) : (cellsS l)[k * 2 + 1]? = some (.float .f64 l[k].2) := by
  induction l generalizing k with
  | nil => simp at hk
  | cons x l ih =>
    cases k with
    | zero => rfl
    | succ k =>
      have := ih (k := k) (by simpa using hk)
      simpa [cellsS, Nat.succ_mul] using this
theorem cellsS_one {l : List Smp} : ∀ u ∈ cellsS l, u.oneCell' = true := by
  intro u hu
  simp [cellsS] at hu
  obtain ⟨a, b, _, rfl | rfl⟩ := hu <;> rfl
theorem FitS.at {l : List Smp} (h : FitS l) {k : Nat} (hk : k < l.length) : In64 (l[k]'hk).1 ∧ (l[k]'hk).2 < 18446744073709551616 := h _ (List.getElem_mem hk)
theorem FitS.nil : FitS [] := fun x hx => by simp at hx
theorem FitS.append {a b : List Smp} (ha : FitS a) (hb : FitS b) : FitS (a ++ b) := fun x hx => by
  rcases List.mem_append.1 hx with h | h
  · exact ha x h
  · exact hb x h
theorem FitS.take {a : List Smp} (ha : FitS a) (k : Nat) : FitS (a.take k) := fun x hx => ha x (List.mem_of_mem_take hx)
theorem FitS.drop {a : List Smp} (ha : FitS a) (k : Nat) : FitS (a.drop k) := fun x hx => ha x (List.mem_of_mem_drop hx)

/-- The slice (ao, l.length) holds the samples l, in a block below B. -/
def SRow (w : World) (B : Nat) (ao : Option Addr) (l : List Smp) : Prop :=
  0 < l.length → ∃ b off, ao = some ⟨b, off, none⟩ ∧ b < B ∧ ∀ k (h : k < l.length), w.cell? ⟨b, off + k * 2, none⟩ = some (.int .i64 (l[k]'h).1) ∧ w.cell? ⟨b, off + k * 2 + 1, none⟩ = some (.float .f64 (l[k]'h).2)

theorem SRow.nil (w : World) (B : Nat) (ao : Option Addr) : SRow w B ao [] := fun h => absurd h (by simp)
theorem SRow.keep {w w' : World} {B : Nat} {ao : Option Addr} {l : List Smp} (h : SRow w B ao l) (hk : ∀ p : Addr, p.block < B → w'.cell? p = w.cell? p) : SRow w' B ao l := fun hl => by
  obtain ⟨b, off, e, hb, hc⟩ := h hl
  exact ⟨b, off, e, hb, fun k hk' => ⟨(hk _ hb).trans (hc k hk').1, (hk _ hb).trans (hc k hk').2⟩⟩
theorem SRow.more {w : World} {B B' : Nat} {ao : Option Addr} {l : List Smp} (h : SRow w B ao l) (hB : B ≤ B') : SRow w B' ao l := fun hl => by
  obtain ⟨b, off, e, hb, hc⟩ := h hl
  exact ⟨b, off, e, Nat.lt_of_lt_of_le hb hB, hc⟩
theorem SRow.below {w w' : World} {B : Nat} {ao : Option Addr} {l : List Smp} (h : SRow w B ao l) (hb : Below B w w') : SRow w' B ao l := h.keep fun _ hp => hb.cell hp
theorem SRow.after {w w' : World} {ao : Option Addr} {l : List Smp} (h : SRow w w.heap.size ao l) (hb : Below w.heap.size w w') : SRow w' w'.heap.size ao l := (h.below hb).more hb.size
theorem SRow.drewN {w : World} {B : Nat} {ao : Option Addr} {l : List Smp} (h : SRow w B ao l) (q : Nat) : SRow (w.drewN q) B ao l := h.keep fun _ _ => rfl
theorem SRow.one {w : World} {B : Nat} {ao : Option Addr} {l : List Smp} {k : Nat} (h : SRow w B ao l) (hk : k < l.length) : ∃ b off, ao = some ⟨b, off, none⟩ ∧ b < B ∧ w.cell? ⟨b, off + k * 2, none⟩ = some (.int .i64 (l[k]'hk).1) ∧ w.cell? ⟨b, off + k * 2 + 1, none⟩ = some (.float .f64 (l[k]'hk).2) := by
  obtain ⟨b, off, e, hb, hc⟩ := h (by omega)
  exact ⟨b, off, e, hb, hc k hk⟩
theorem SRow.nonnil {w : World} {B : Nat} {ao : Option Addr} {l : List Smp} (h : SRow w B ao l) (hp : 0 < l.length) : ∃ a, ao = some a := by
  obtain ⟨b, off, e, _⟩ := h hp
  exact ⟨_, e⟩

theorem below_drewN {w w1 : World} {B : Nat} (h : Below B w w1) (q : Nat) : Below B w (w1.drewN q) := by
  induction q with
  | zero => exact h
  | succ q ih => exact ih.drew

/-- The samples of a row that the call owns are read from it. -/
theorem SRow.of_own {w : World} {base : Nat} {e : TypeId} {ao : Option Addr} {n c : Nat} {l : List Smp} (h : w.ownsRow base e 2 (.slice ao n c) n (cellsS l)) : n = l.length ∧ SRow w w.heap.size ao l := by
  have hn : n = l.length := by
    have := h.1
    rw [cellsS_length] at this
    omega
  refine ⟨hn, fun hl => ?_⟩
  obtain ⟨g, cap, hv, _, hlt⟩ := h.form (by omega)
  injection hv with hA
  subst hA
  have hc := h.cells (g := g) rfl
  refine ⟨g, 0, rfl, hlt, fun k hk => ⟨?_, ?_⟩⟩
  · have := hc _ _ (cellsS_t hk)
    rwa [add_plain] at this
  · have := hc _ _ (cellsS_v hk)
    rwa [add_plain, ← Nat.add_assoc] at this
/-- A slice in a row of one's own, in its two forms. -/
theorem SRow.own {w : World} {base : Nat} {e : TypeId} {v : Value} {l : List Smp} (h : w.ownsRow base e 2 v l.length (cellsS l)) : ∃ ao c, v = .slice ao l.length c ∧ SRow w w.heap.size ao l := by
  obtain ⟨ao, c, rfl⟩ := own_slice h
  exact ⟨ao, c, rfl, (SRow.of_own h).2⟩
theorem own_len {w : World} {base : Nat} {e : TypeId} {ao : Option Addr} {n c : Nat} {xs : List Value} {s : Nat} (h : w.ownsRow base e s (.slice ao n c) n xs) : n ≤ c := by
  rcases h.2 with ⟨hv, hn⟩ | ⟨g, cap, cur, hv, _, _, hle, _⟩
  · injection hv with _ _ hc; omega
  · injection hv with _ _ hc; omega

theorem Try.info42 : (Try.prog.info? 42).map (fun i => (i.zero, i.size, i.bytes)) = some (some (.agg #[.int .i64 0, .float .f64 0]), 2, 16) := by kernel_rfl
theorem take_pair {cur : List Value} {k : Nat} {a b : Value} (h : k * 2 + 2 ≤ cur.length) : ((cur.set (k * 2) a).set (k * 2 + 1) b).take (k * 2 + 2) = cur.take (k * 2) ++ [a, b] := by
  apply List.ext_getElem?
  intro i
  rw [List.getElem?_take]
  by_cases h1 : i < k * 2
  · rw [if_pos (by omega), List.getElem?_set_ne (by omega), List.getElem?_set_ne (by omega), List.getElem?_append_left (by simp; omega), List.getElem?_take, if_pos h1]
  · by_cases h2 : i = k * 2
    · subst h2
      rw [if_pos (by omega), List.getElem?_set_ne (by omega), List.getElem?_set_self (by omega), List.getElem?_append_right (by simp; omega)]
      simp [Nat.min_eq_left (show k * 2 ≤ cur.length by omega)]
    · by_cases h3 : i = k * 2 + 1
      · subst h3
        rw [if_pos (by omega), List.getElem?_set_self (by simp; omega), List.getElem?_append_right (by simp; omega)]
        simp [Nat.min_eq_left (show k * 2 ≤ cur.length by omega)]
      · rw [if_neg (by omega), List.getElem?_eq_none (by simp; omega)]

/-- The first k samples have been laid. -/
def Laid (base : Nat) (g c : Nat) (l : List Smp) (k : Nat) (wr : World) : Prop :=
  ∃ cur, wr.ownsRow base 42 2 (.slice (some ⟨g, 0, none⟩) l.length c) l.length cur ∧ cur.take (k * 2) = cellsS (l.take k)
theorem Laid.at {base g c : Nat} {l : List Smp} {k : Nat} {wr : World} (h : Laid base g c l k wr) (hk : k < l.length) :
    (∃ u, wr.cell? ⟨g, k * 2, none⟩ = some u) ∧ (∃ u, wr.cell? ⟨g, k * 2 + 1, none⟩ = some u) ∧ wr.frozen? ⟨g, k * 2, none⟩ = false ∧ wr.frozen? ⟨g, k * 2 + 1, none⟩ = false := by
  obtain ⟨cur, ho, _⟩ := h
  have hl := ho.1
  exact ⟨⟨cur[k * 2]'(by omega), by rw [ho.cellAt _ (by omega), List.getElem?_eq_getElem]⟩, ⟨cur[k * 2 + 1]'(by omega), by rw [ho.cellAt _ (by omega), List.getElem?_eq_getElem]⟩, ho.frozenAt _, ho.frozenAt _⟩
theorem gb_trans {a b c : World} {row : Option Nat} (h : a.grownBy b row) (k : b.grownBy c row) : a.grownBy c row :=
  ⟨k.os.trans h.os, k.tape.trans h.tape, k.output.trans h.output, Nat.le_trans h.size k.size, fun i hi hne => (k.block i (Nat.lt_of_lt_of_le hi h.size) hne).trans (h.block i hi hne)⟩
theorem Laid.step {base g c : Nat} {l : List Smp} {k : Nat} {wr : World} (h : Laid base g c l k wr) (hk : k < l.length) :
    Laid base g c l (k + 1) ((wr.setCell ⟨g, k * 2, none⟩ (.int .i64 l[k].1)).setCell ⟨g, k * 2 + 1, none⟩ (.float .f64 l[k].2)) := by
  obtain ⟨cur, ho, ht⟩ := h
  have hl := ho.1
  refine ⟨_, ((ho.stored (k * 2) _).1.stored (k * 2 + 1) _).1, ?_⟩
  rw [show (k + 1) * 2 = k * 2 + 2 by omega, take_pair (by omega), ht, List.take_succ_eq_append_getElem hk, cellsS_append]
  rfl
theorem Laid.done {base g c : Nat} {l : List Smp} {wr : World} (h : Laid base g c l l.length wr) : wr.ownsRow base 42 2 (.slice (some ⟨g, 0, none⟩) l.length c) l.length (cellsS l) := by
  obtain ⟨cur, ho, ht⟩ := h
  rw [List.take_length, List.take_of_length_le (by rw [ho.1]; exact Nat.le_refl _)] at ht
  rwa [ht] at ho
theorem Laid.below {base g c : Nat} {l : List Smp} {k : Nat} {wr w1 : World} (h : Laid base g c l k wr) (hb : Below wr.heap.size wr w1) : Laid base g c l k w1 := by
  obtain ⟨cur, ho, ht⟩ := h
  refine ⟨cur, ho.kept (row := none) ⟨hb.os, hb.tape, hb.output, hb.size, fun i hi _ => hb.block i hi⟩ ?_, ht⟩
  exact .inr (by simp [Value.ownBlock])
end Go.Proofs.Yteiefngamccapaa
namespace Go.Proofs.Yteiefngamccapaa
open Go.RowKit Go.Deep Go.WideShapes

section
variable {α : Type} {s : Nat} {f : α → List Value}

def cellsG (f : α → List Value) (l : List α) : List Value := l.flatMap f
theorem cellsG_length (hf : ∀ x, (f x).length = s) (l : List α) : (cellsG f l).length = l.length * s := by
  induction l with
  | nil => simp [cellsG]
  | cons x l ih =>
    simp only [cellsG] at ih
    simp only [cellsG, List.flatMap_cons, List.length_append, List.length_cons, ih, hf]
    rw [Nat.add_mul, Nat.one_mul, Nat.add_comm]
theorem cellsG_append (a b : List α) : cellsG f (a ++ b) = cellsG f a ++ cellsG f b := by simp [cellsG]
theorem cellsG_at (hf : ∀ x, (f x).length = s) : ∀ {l : List α} {k j : Nat} (hk : k < l.length) (_ : j < s), (cellsG f l)[k * s + j]? = (f l[k])[j]?
  | [], k, j, hk, _ => by simp at hk
  | x :: l, 0, j, _, hj => by
    simp only [cellsG, List.flatMap_cons, Nat.zero_mul, Nat.zero_add, List.getElem_cons_zero]
    rw [List.getElem?_append_left (by rw [hf]; exact hj)]
  | x :: l, k + 1, j, hk, hj => by
    have ih := cellsG_at hf (l := l) (k := k) (j := j) (by simpa using hk) hj
    simp only [cellsG, List.flatMap_cons, List.getElem_cons_succ] at ih ⊢
    rw [List.getElem?_append_right (by rw [hf, Nat.add_mul, Nat.one_mul]; omega), hf, ← ih]
    congr 1
    rw [Nat.add_mul, Nat.one_mul]; omega

/-- The slice (ao, l.length) holds the list l, in a block below B. -/
def GR (s : Nat) (f : α → List Value) (w : World) (B : Nat) (ao : Option Addr) (l : List α) : Prop :=
  0 < l.length → ∃ b off, ao = some ⟨b, off, none⟩ ∧ b < B ∧ ∀ k (h : k < l.length) j v, (f (l[k]'h))[j]? = some v → w.cell? ⟨b, off + k * s + j, none⟩ = some v
theorem GR.nil (w : World) (B : Nat) (ao : Option Addr) : GR s f w B ao [] := fun h => absurd h (by simp)
theorem GR.keep {w w' : World} {B : Nat} {ao : Option Addr} {l : List α} (h : GR s f w B ao l) (hk : ∀ p : Addr, p.block < B → w'.cell? p = w.cell? p) : GR s f w' B ao l := fun hl => by
  obtain ⟨b, off, e, hb, hc⟩ := h hl
  exact ⟨b, off, e, hb, fun k hk' j v hv => (hk _ hb).trans (hc k hk' j v hv)⟩
theorem GR.more {w : World} {B B' : Nat} {ao : Option Addr} {l : List α} (h : GR s f w B ao l) (hB : B ≤ B') : GR s f w B' ao l := fun hl => by
  obtain ⟨b, off, e, hb, hc⟩ := h hl
  exact ⟨b, off, e, Nat.lt_of_lt_of_le hb hB, hc⟩
theorem GR.below {w w' : World} {B : Nat} {ao : Option Addr} {l : List α} (h : GR s f w B ao l) (hb : Below B w w') : GR s f w' B ao l := h.keep fun _ hp => hb.cell hp
theorem GR.after {w w' : World} {ao : Option Addr} {l : List α} (h : GR s f w w.heap.size ao l) (hb : Below w.heap.size w w') : GR s f w' w'.heap.size ao l := (h.below hb).more hb.size
theorem GR.take {w : World} {B : Nat} {ao : Option Addr} {l : List α} (h : GR s f w B ao l) (k : Nat) : GR s f w B ao (l.take k) := fun hl => by
  rw [List.length_take] at hl
  obtain ⟨b, off, e, hb, hc⟩ := h (by omega)
  refine ⟨b, off, e, hb, fun j hj => ?_⟩
  rw [List.length_take] at hj
  rw [List.getElem_take]
  exact hc j (by omega)

/-- The entries of a row that the call owns are read from it. -/
theorem GR.of_own (hf : ∀ x, (f x).length = s) {w : World} {base : Nat} {e : TypeId} {ao : Option Addr} {c : Nat} {l : List α} (h : w.ownsRow base e s (.slice ao l.length c) l.length (cellsG f l)) : GR s f w w.heap.size ao l := fun hl => by
  obtain ⟨g, cap, hv, _, hlt⟩ := h.form (by omega)
  injection hv with hA
  subst hA
  have hc := h.cells (g := g) rfl
  refine ⟨g, 0, rfl, hlt, fun k hk j v hv => ?_⟩
  have hj : j < s := by have := (List.getElem?_eq_some_iff.1 hv).1; rwa [hf] at this
  have := hc (k * s + j) v (by rw [cellsG_at hf hk hj]; exact hv)
  rwa [add_plain, ← Nat.add_assoc] at this
theorem GR.of_own' (hf : ∀ x, (f x).length = s) {w : World} {base : Nat} {e : TypeId} {v : Value} {l : List α} (h : w.ownsRow base e s v l.length (cellsG f l)) : ∃ ao c, v = .slice ao l.length c ∧ GR s f w w.heap.size ao l := by
  obtain ⟨ao, c, rfl⟩ := own_slice h
  exact ⟨ao, c, rfl, GR.of_own hf h⟩

/-- The first k entries have been laid. -/
def LaidG (base : Nat) (t : TypeId) (s : Nat) (f : α → List Value) (g n c : Nat) (l : List α) (k : Nat) (wr : World) : Prop :=
  ∃ cur, wr.ownsRow base t s (.slice (some ⟨g, 0, none⟩) n c) n cur ∧ ∀ i (h : i < l.length), i < k → ∀ j, j < s → cur[i * s + j]? = (f (l[i]'h))[j]?
theorem LaidG.start {base : Nat} {t : TypeId} {g n c : Nat} {l : List α} {wr : World} {xs : List Value} (h : wr.ownsRow base t s (.slice (some ⟨g, 0, none⟩) n c) n xs) : LaidG base t s f g n c l 0 wr := ⟨xs, h, fun i _ hi => absurd hi (by omega)⟩
theorem LaidG.at {base : Nat} {t : TypeId} {g n c : Nat} {l : List α} {k : Nat} {wr : World} (h : LaidG base t s f g n c l k wr) (hk : k < n) (j : Nat) (hj : j < s) :
    (∃ u, wr.cell? ⟨g, k * s + j, none⟩ = some u) ∧ wr.frozen? ⟨g, k * s + j, none⟩ = false := by
  obtain ⟨cur, ho, _⟩ := h
  have hl := ho.1
  have hlt : k * s + j < n * s := by
    have h1 : (k + 1) * s ≤ n * s := Nat.mul_le_mul_right s hk
    rw [Nat.add_mul, Nat.one_mul] at h1
    omega
  exact ⟨⟨cur[k * s + j]'(by omega), by rw [ho.cellAt _ hlt, List.getElem?_eq_getElem]⟩, ho.frozenAt _⟩
theorem LaidG.below {base : Nat} {t : TypeId} {g n c : Nat} {l : List α} {k : Nat} {wr w1 : World} (h : LaidG base t s f g n c l k wr) (hb : Below wr.heap.size wr w1) : LaidG base t s f g n c l k w1 := by
  obtain ⟨cur, ho, ht⟩ := h
  exact ⟨cur, own_below ho hb, ht⟩
theorem LaidG.done (hf : ∀ x, (f x).length = s) {base : Nat} {t : TypeId} {g c : Nat} {l : List α} {wr : World} (h : LaidG base t s f g l.length c l l.length wr) : wr.ownsRow base t s (.slice (some ⟨g, 0, none⟩) l.length c) l.length (cellsG f l) := by
  obtain ⟨cur, ho, ht⟩ := h
  have hl := ho.1
  have hc := cellsG_length hf l
  have e : cur = cellsG f l := by
    apply List.ext_getElem?
    intro i
    by_cases hi : i < l.length * s
    · have hs : 0 < s := Nat.pos_of_ne_zero fun e => by subst e; simp at hi
      have hd : i = i / s * s + i % s := by rw [Nat.mul_comm]; exact (Nat.div_add_mod i s).symm
      have hk : i / s < l.length := Nat.div_lt_of_lt_mul (by rw [Nat.mul_comm]; exact hi)
      have hm : i % s < s := Nat.mod_lt _ hs
      rw [hd, ht _ hk hk _ hm, cellsG_at hf hk hm]
    · rw [List.getElem?_eq_none (by omega), List.getElem?_eq_none (by omega)]
  rwa [e] at ho
/-- One entry of four cells more. -/
theorem LaidG.step4 {f : α → List Value} {base : Nat} {t : TypeId} {g n c : Nat} {l : List α} {k : Nat} {wr : World} {x0 x1 x2 x3 : Value} (h : LaidG base t 4 f g n c l k wr) (hn : k < n) (hx : ∀ h : k < l.length, f l[k] = [x0, x1, x2, x3]) :
    LaidG base t 4 f g n c l (k + 1) ((((wr.setCell ⟨g, k * 4, none⟩ x0).setCell ⟨g, k * 4 + 1, none⟩ x1).setCell ⟨g, k * 4 + 2, none⟩ x2).setCell ⟨g, k * 4 + 3, none⟩ x3) ∧
    wr.grownBy ((((wr.setCell ⟨g, k * 4, none⟩ x0).setCell ⟨g, k * 4 + 1, none⟩ x1).setCell ⟨g, k * 4 + 2, none⟩ x2).setCell ⟨g, k * 4 + 3, none⟩ x3) (some g) := by
  obtain ⟨cur, ho, ht⟩ := h
  have hl := ho.1
  have a0 := ho.stored (k * 4) x0
  have a1 := a0.1.stored (k * 4 + 1) x1
  have a2 := a1.1.stored (k * 4 + 2) x2
  have a3 := a2.1.stored (k * 4 + 3) x3
  refine ⟨⟨_, a3.1, fun i hi hik j hj => ?_⟩, gb_trans (gb_trans (gb_trans a0.2 a1.2) a2.2) a3.2⟩
  by_cases e : i = k
  · subst e
    rw [hx hi]
    match j, hj with
    | 0, _ => rw [List.getElem?_set_ne (by omega), List.getElem?_set_ne (by omega), List.getElem?_set_ne (by omega), Nat.add_zero, List.getElem?_set_self (by omega)]; rfl
    | 1, _ => rw [List.getElem?_set_ne (by omega), List.getElem?_set_ne (by omega), List.getElem?_set_self (by simp; omega)]; rfl
    | 2, _ => rw [List.getElem?_set_ne (by omega), List.getElem?_set_self (by simp; omega)]; rfl
    | 3, _ => rw [List.getElem?_set_self (by simp; omega)]; rfl
  · rw [List.getElem?_set_ne (by omega), List.getElem?_set_ne (by omega), List.getElem?_set_ne (by omega), List.getElem?_set_ne (by omega)]
    exact ht i hi (by omega) j hj
end
/-- What is appended: m entries' cells at some address, or none. -/
def SrcA (s : Nat) (w : World) (A : Option Addr) (m : Nat) (news : List Value) : Prop := news.length = m * s ∧ (A = none → m = 0) ∧ ∀ ad, A = some ad → ∀ j u, news[j]? = some u → w.cell? (ad.add j) = some u
theorem GR.srcA {α : Type} {s : Nat} {f : α → List Value} (hf : ∀ x, (f x).length = s) {w : World} {B : Nat} {ao : Option Addr} {l : List α} (h : GR s f w B ao l) : SrcA s w ao l.length (cellsG f l) := by
  refine ⟨cellsG_length hf l, fun e => ?_, fun ad e j u hu => ?_⟩
  · subst e
    rcases Nat.eq_zero_or_pos l.length with h0 | h0
    · exact h0
    · obtain ⟨b, off, e, _⟩ := h h0; cases e
  · have hj := (List.getElem?_eq_some_iff.1 hu).1
    rw [cellsG_length hf] at hj
    have hs : 0 < s := Nat.pos_of_ne_zero fun e => by subst e; simp at hj
    have hl : 0 < l.length := Nat.pos_of_ne_zero fun e => by rw [e] at hj; simp at hj
    obtain ⟨b, off, e', _, hc⟩ := h hl
    rw [e] at e'
    injection e' with e'
    subst e'
    have hd : j = j / s * s + j % s := by rw [Nat.mul_comm]; exact (Nat.div_add_mod j s).symm
    have hk : j / s < l.length := Nat.div_lt_of_lt_mul (by rw [Nat.mul_comm]; exact hj)
    have hm : j % s < s := Nat.mod_lt _ hs
    rw [hd, cellsG_at hf hk hm] at hu
    have := hc _ hk _ _ hu
    rw [add_plain, hd, ← Nat.add_assoc]
    exact this
theorem SrcA.keep {s : Nat} {w w' : World} {B : Nat} {A : Option Addr} {m : Nat} {news : List Value} (h : SrcA s w A m news) (hB : ∀ ad, A = some ad → ad.block < B) (hk : ∀ p : Addr, p.block < B → w'.cell? p = w.cell? p) : SrcA s w' A m news :=
  ⟨h.1, h.2.1, fun ad e j u hu => (hk _ (by unfold Addr.add; split <;> exact hB ad e)).trans (h.2.2 ad e j u hu)⟩
/-- 'append' onto a row of the call's own, whatever slice is appended. -/
theorem run_append_any {P : Program} {t ty e : TypeId} {i0 : TypeInfo} {z : Value} {s bytes : Nat} (ht : P.underlying t = some (.slice e)) (hi : P.info? e = some i0) (hz : i0.zero = some z) (hs0 : i0.size = s) (hby : i0.bytes = bytes) (hzs : z.cells.size = s) (hsp : 0 < s)
    (w : World) (base : Nat) (v : Value) (n : Nat) (xs : List Value) (hown : w.ownsRow base e s v n xs) (A : Option Addr) (m c : Nat) (news : List Value) (hs : SrcA s w A m news)
    (h1 : ∀ u ∈ news, u.oneCell' = true) (hb : n + m ≤ maxLen) (hb2 : (n + m) * bytes ≤ 140737488355328) (hbase : base ≤ w.heap.size) :
    ∃ v' w', (Builtin.append_ #[t, t] ty #[v, .slice A m c]).run P w = .ok v' w' ∧ w'.ownsRow base e s v' (n + m) (xs ++ news) ∧ w.grownBy w' v.ownBlock := by
  cases A with
  | none =>
    obtain rfl := hs.2.1 rfl
    obtain rfl : news = [] := List.eq_nil_of_length_eq_zero (by simpa using hs.1)
    refine ⟨v, w, ?_, by simpa using hown, World.grownBy.refl _ _⟩
    rcases hown.2 with ⟨rfl, rfl⟩ | ⟨g, cap, cur, rfl, _, _, hnc, _⟩
    · simp [Builtin.append_, run_underlying ht, Go.sizeOf, typeInfo, hi, Builtin.lenOf, Builtin.firstCells]
    · simp [Builtin.append_, run_underlying ht, Go.sizeOf, typeInfo, hi, Builtin.lenOf, Builtin.firstCells, hnc, storeCells]
  | some ad =>
    obtain ⟨v', w', hr, h2, h3, _, h5⟩ := run_append_own_at (P := P) w base t ty e i0 z s bytes ht hi hz hs0 hby hzs hsp v n xs hown ad m c news hs.1 (hs.2.2 ad rfl) h1 hb hb2 hbase
    exact ⟨v', w', hr, h2, h3⟩
theorem wpList_append_any {P : Program} {t e : TypeId} {i0 : TypeInfo} {z : Value} {s bytes : Nat} {ops : Array Oper} {rest : List Oper} {o : Oper} {a : Act} (w : World) {Q : Exit → Act → World → Prop} (hgd : o.guard = none) (sl x : Operand) (ho : o.op = .call { callee := .builtin .append, args := #[sl, x], argTypes := #[t, t] })
    (ht : P.underlying t = some (.slice e)) (hi : P.info? e = some i0) (hz : i0.zero = some z) (hs0 : i0.size = s) (hby : i0.bytes = bytes) (hzs : z.cells.size = s) (hsp : 0 < s)
    (base : Nat) (v : Value) (n : Nat) (xs : List Value) (hv : a.eval sl = v) (hown : w.ownsRow base e s v n xs) (A : Option Addr) (m c : Nat) (news : List Value) (hx : a.eval x = .slice A m c) (hs : SrcA s w A m news)
    (h1 : ∀ u ∈ news, u.oneCell' = true) (hb : n + m ≤ maxLen) (hb2 : (n + m) * bytes ≤ 140737488355328) (hbase : base ≤ w.heap.size)
    (h : ∀ v' w', w'.ownsRow base e s v' (n + m) (xs ++ news) → w.grownBy w' v.ownBlock → wpList P ops Q rest (a.put o.dst v') w') : wpList P ops Q (o :: rest) a w := by
  refine wpList_plain hgd fun K hK => ?_
  obtain ⟨v', w', hr, h2, h3⟩ := run_append_any (ty := o.type) ht hi hz hs0 hby hzs hsp w base v n xs hown A m c news hs h1 hb hb2 hbase
  unfold Oper.wp execOp
  simp only [ho, resolve, invoke, builtin, Sem.run_bind, Sem.run_pure, Result.andThen_ok, List.map_toArray, List.map_cons, List.map_nil, hv, hx, hr]
  exact hK _ _ (h v' w' h2 h3)
end Go.Proofs.Yteiefngamccapaa
