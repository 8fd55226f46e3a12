/- How a list of matchers lies in memory (three cells a matcher), and contracts of the exact laws' helpers on such lists, over this seat's translation: the size, the copy, the comparison. -/
import Derived.Test.YtpbcgfgjdimpmaaDoorWk
import Derived.StillTailTactics
namespace Go.Proofs.YtpbcgfgjdimpmaaDoor
open Go.RowKit Go.Deep Go.WideShapes

/-- The slice (ao, l.length) holds the matchers l, in a block below B. -/
def MRow (w : World) (B : Nat) (ao : Option Addr) (l : List Mat) : Prop :=
  0 < l.length → ∃ b off, ao = some ⟨b, off, none⟩ ∧ b < B ∧ ∀ k (h : k < l.length), w.cell? ⟨b, off + k * 3, none⟩ = some (.int .i64 (l[k]'h).1) ∧ w.cell? ⟨b, off + k * 3 + 1, none⟩ = some (.string (l[k]'h).2.1) ∧ w.cell? ⟨b, off + k * 3 + 2, none⟩ = some (.string (l[k]'h).2.2)
def FitM (l : List Mat) : Prop := l.length ≤ 1048576 ∧ ∀ x ∈ l, x.2.1.size ≤ 1048576 ∧ x.2.2.size ≤ 1048576
def FineM (l : List Mat) : Prop := l.length ≤ maxLen ∧ ∀ x ∈ l, x.2.1.size ≤ maxLen ∧ x.2.2.size ≤ maxLen
theorem FitM.at {l : List Mat} (h : FitM l) {k : Nat} (hk : k < l.length) : (l[k]'hk).2.1.size ≤ 1048576 ∧ (l[k]'hk).2.2.size ≤ 1048576 := h.2 _ (List.getElem_mem hk)
theorem FineM.at {l : List Mat} (h : FineM l) {k : Nat} (hk : k < l.length) : (l[k]'hk).2.1.size ≤ maxLen ∧ (l[k]'hk).2.2.size ≤ maxLen := h.2 _ (List.getElem_mem hk)
theorem MRow.nil (w : World) (B : Nat) (ao : Option Addr) : MRow w B ao [] := fun h => absurd h (by simp)
theorem MRow.keep {w w' : World} {B : Nat} {ao : Option Addr} {l : List Mat} (h : MRow w B ao l) (hk : ∀ p : Addr, p.block < B → w'.cell? p = w.cell? p) : MRow w' B ao l := fun hl => by
  obtain ⟨b, off, e, hb, hc⟩ := h hl
  exact ⟨b, off, e, hb, fun k hk' => ⟨(hk _ hb).trans (hc k hk').1, (hk _ hb).trans (hc k hk').2.1, (hk _ hb).trans (hc k hk').2.2⟩⟩
theorem MRow.more {w : World} {B B' : Nat} {ao : Option Addr} {l : List Mat} (h : MRow w B ao l) (hB : B ≤ B') : MRow w B' ao l := fun hl => by
  obtain ⟨b, off, e, hb, hc⟩ := h hl
  exact ⟨b, off, e, Nat.lt_of_lt_of_le hb hB, hc⟩
theorem MRow.below {w w' : World} {B : Nat} {ao : Option Addr} {l : List Mat} (h : MRow w B ao l) (hb : Below B w w') : MRow w' B ao l := h.keep fun _ hp => hb.cell hp
theorem MRow.after {w w' : World} {ao : Option Addr} {l : List Mat} (h : MRow w w.heap.size ao l) (hb : Below w.heap.size w w') : MRow w' w'.heap.size ao l := (h.below hb).more hb.size

def cellsM (l : List Mat) : List Value := l.flatMap fun x => [.int .i64 x.1, .string x.2.1, .string x.2.2]
theorem cellsM_append (a b : List Mat) : cellsM (a ++ b) = cellsM a ++ cellsM b := by simp [cellsM]
theorem cellsM_length : ∀ (l : List Mat), (cellsM l).length = l.length * 3
  | [] => rfl
  | x :: l => by
    have ih := cellsM_length l
    simp only [cellsM] at ih
    simp only [cellsM, List.flatMap_cons, List.length_append, List.length_cons, List.length_nil, ih]
    omega
theorem cellsM_at : ∀ {l : List Mat} {k : Nat} (hk : k < l.length), (cellsM l)[k * 3]? = some (.int .i64 l[k].1) ∧ (cellsM l)[k * 3 + 1]? = some (.string l[k].2.1) ∧ (cellsM l)[k * 3 + 2]? = some (.string l[k].2.2)
  | [], _, hk => absurd hk (by simp)
  | x :: l, 0, _ => ⟨rfl, rfl, rfl⟩
  | x :: l, k + 1, hk => by
    have ih := cellsM_at (l := l) (k := k) (by simpa using hk)
    simpa [cellsM, Nat.succ_mul] using ih
theorem MRow.of_own {w : World} {base : Nat} {e : TypeId} {ao : Option Addr} {n c : Nat} {l : List Mat} (h : w.ownsRow base e 3 (.slice ao n c) n (cellsM l)) : n = l.length ∧ MRow w w.heap.size ao l := by
  have hn : n = l.length := by
    have := h.1
    rw [cellsM_length] at this
    omega
  refine ⟨hn, fun hl => ?_⟩
  obtain ⟨g, cap, hv, _, hlt⟩ := h.form (by omega)
  injection hv with hA
  subst hA
  have hc := h.cells (g := g) rfl
  refine ⟨g, 0, rfl, hlt, fun k hk => ⟨?_, ?_, ?_⟩⟩
  · have := hc _ _ (cellsM_at hk).1
    rwa [add_plain] at this
  · have := hc _ _ (cellsM_at hk).2.1
    rwa [add_plain, ← Nat.add_assoc] at this
  · have := hc _ _ (cellsM_at hk).2.2
    rwa [add_plain, ← Nat.add_assoc] at this

def fitToM (l : List Mat) (k : Nat) : Prop := ∀ i (h : i < l.length), i < k → (l[i]'h).2.1.size ≤ 1048576 ∧ (l[i]'h).2.2.size ≤ 1048576
theorem fitToM_succ {l : List Mat} {k : Nat} (h : fitToM l k) (hk : k < l.length) (h2 : (l[k]'hk).2.1.size ≤ 1048576 ∧ (l[k]'hk).2.2.size ≤ 1048576) : fitToM l (k + 1) := fun i hi hik => by
  by_cases e : i = k
  · subst e; exact h2
  · exact h i hi (by omega)
theorem fitM_of {l : List Mat} (h : fitToM l l.length) (hn : l.length ≤ 1048576) : FitM l := ⟨hn, fun x hx => by
  obtain ⟨i, hi, rfl⟩ := List.getElem_of_mem hx
  exact h i hi hi⟩

set_option maxHeartbeats 1000000 in
theorem sz55 (ao : Option Addr) (cap : Nat) (l : List Mat) (hF : FineM l) (left : Int) (h0 : 0 ≤ left) (h1 : left ≤ 1048576) (w : World) (h : MRow w w.heap.size ao l) :
    Calls Tryd.prog 55 #[.slice ao l.length cap, .int .i64 left] w (Sz (FitM l) left w) := by
  have H := Lib.hid h
  clear h
  have hn := hF.1
  unfold maxLen at hn
  by_cases c1 : left < l.length
  · go_enter Tryd.func55, Tryd.ntmps55
    go_wp2
    go_ret
    exact ⟨-1, rfl, by omega, by omega, fun h => by omega, Below.refl _ _⟩
  go_enter Tryd.func55, Tryd.ntmps55
  go_wp2
  go_loopw [1, 5] (fun s i wr => ∃ (k : Nat) (r : Int), k ≤ l.length ∧ i = .int .i64 k ∧ s = .int .i64 r ∧ 0 ≤ r ∧ r ≤ left ∧ Hid (fitToM l k) ∧ Hid (Below w.heap.size w wr)) (fun _ i _ => l.length - (intOf i).toNat)
  case atStart => exact ⟨0, _, Nat.zero_le _, rfl, rfl, by omega, by omega, fun _ _ h => absurd h (by omega), Below.refl _ _⟩
  case round =>
    obtain ⟨k, r, hk, rfl, rfl, hr0, hr1, hf, hb⟩ := hrel
    by_cases hlt : k < l.length
    · obtain ⟨b, off, hao, hbl, hc⟩ := H.out (by omega)
      subst hao
      have c0 := (hb.out.cell (p := ⟨b, off + k * 3, none⟩) hbl).trans (hc k hlt).1
      have c1' := (hb.out.cell (p := ⟨b, off + k * 3 + 1, none⟩) hbl).trans (hc k hlt).2.1
      have c2' := (hb.out.cell (p := ⟨b, off + k * 3 + 2, none⟩) hbl).trans (hc k hlt).2.2
      have hz := hF.at hlt
      have HN := Lib.hid (fitToM_succ hf.out hlt)
      clear hc
      generalize l[k] = x at c0 c1' c2' hz HN
      obtain ⟨x0, x1, x2⟩ := x
      go_wp2_with fail
      refine (sz59 x0 x1 x2 hz.1 hz.2 r hr0 (by omega) _).mono ?_
      rintro e w1 ⟨r1, rfl, g1, g2, g3, g4⟩
      have HB := Lib.hid (hb.out.trans (g4.mono hb.out.size))
      have G3 := Lib.hid g3
      clear g4 g3
      by_cases hneg : r1 < 0
      · go_wp2
        go_ret
        exact ⟨-1, rfl, by omega, by omega, fun h => by omega, HB.out⟩
      · go_wp2
        go_roundw
        case rel => exact ⟨k + 1, r1, by omega, by go_num, rfl, by omega, by omega, HN.out (G3.out (by omega)), HB⟩
        case measure => simp [intOf]; omega
    · obtain rfl : k = l.length := by omega
      go_wp2
      go_ret
      exact ⟨r, rfl, by omega, by omega, fun _ => fitM_of hf.out (by omega), hb.out⟩

def MadeM (base : Nat) (l : List Mat) (w : World) (e : Ending) (w' : World) : Prop :=
  ∃ v, e = .returned v ∧ w'.ownsRow base 43 3 v l.length (cellsM l) ∧ Below w.heap.size w w'
theorem Tryd.info43 : (Tryd.prog.info? 43).map (fun i => (i.zero, i.size, i.bytes)) = some (some (.agg #[.int .i64 0, .string ⟨#[]⟩, .string ⟨#[]⟩]), 3, 40) := by kernel_rfl
theorem take_triple {cur : List Value} {k : Nat} {a b c : Value} (h : k * 3 + 3 ≤ cur.length) : (((cur.set (k * 3) a).set (k * 3 + 1) b).set (k * 3 + 2) c).take (k * 3 + 3) = cur.take (k * 3) ++ [a, b, c] := by
  apply List.ext_getElem?
  intro i
  rw [List.getElem?_take]
  by_cases h1 : i < k * 3
  · rw [if_pos (by omega), List.getElem?_set_ne (by omega), List.getElem?_set_ne (by omega), List.getElem?_set_ne (by omega), List.getElem?_append_left (by simp; omega), List.getElem?_take, if_pos h1]
  · by_cases h2 : i = k * 3
    · subst h2
      rw [if_pos (by omega), List.getElem?_set_ne (by omega), List.getElem?_set_ne (by omega), List.getElem?_set_self (by omega), List.getElem?_append_right (by simp; omega)]
      simp [Nat.min_eq_left (show k * 3 ≤ cur.length by omega)]
    · by_cases h3 : i = k * 3 + 1
      · subst h3
        rw [if_pos (by omega), List.getElem?_set_ne (by omega), List.getElem?_set_self (by simp; omega), List.getElem?_append_right (by simp; omega)]
        simp [Nat.min_eq_left (show k * 3 ≤ cur.length by omega)]
      · by_cases h4 : i = k * 3 + 2
        · subst h4
          rw [if_pos (by omega), List.getElem?_set_self (by simp; omega), List.getElem?_append_right (by simp; omega)]
          simp [Nat.min_eq_left (show k * 3 ≤ cur.length by omega)]
        · rw [if_neg (by omega), List.getElem?_eq_none (by simp; omega)]

def LaidM (base : Nat) (g : Nat) (l : List Mat) (k : Nat) (wr : World) : Prop :=
  ∃ cur, wr.ownsRow base 43 3 (.slice (some ⟨g, 0, none⟩) l.length l.length) l.length cur ∧ cur.take (k * 3) = cellsM (l.take k)
theorem LaidM.at {base g : Nat} {l : List Mat} {k : Nat} {wr : World} (h : LaidM base g l k wr) (hk : k < l.length) :
    (∃ u, wr.cell? ⟨g, k * 3, none⟩ = some u) ∧ (∃ u, wr.cell? ⟨g, k * 3 + 1, none⟩ = some u) ∧ (∃ u, wr.cell? ⟨g, k * 3 + 2, none⟩ = some u) ∧ wr.frozen? ⟨g, k * 3, none⟩ = false ∧ wr.frozen? ⟨g, k * 3 + 1, none⟩ = false ∧ wr.frozen? ⟨g, k * 3 + 2, none⟩ = false := by
  obtain ⟨cur, ho, _⟩ := h
  have hl := ho.1
  exact ⟨⟨cur[k * 3]'(by omega), by rw [ho.cellAt _ (by omega), List.getElem?_eq_getElem]⟩, ⟨cur[k * 3 + 1]'(by omega), by rw [ho.cellAt _ (by omega), List.getElem?_eq_getElem]⟩, ⟨cur[k * 3 + 2]'(by omega), by rw [ho.cellAt _ (by omega), List.getElem?_eq_getElem]⟩, ho.frozenAt _, ho.frozenAt _, ho.frozenAt _⟩
theorem LaidM.step {base g : Nat} {l : List Mat} {k : Nat} {wr : World} (h : LaidM base g l k wr) (hk : k < l.length) :
    LaidM base g l (k + 1) (((wr.setCell ⟨g, k * 3, none⟩ (.int .i64 l[k].1)).setCell ⟨g, k * 3 + 1, none⟩ (.string l[k].2.1)).setCell ⟨g, k * 3 + 2, none⟩ (.string l[k].2.2)) := by
  obtain ⟨cur, ho, ht⟩ := h
  have hl := ho.1
  refine ⟨_, (((ho.stored (k * 3) _).1.stored (k * 3 + 1) _).1.stored (k * 3 + 2) _).1, ?_⟩
  rw [show (k + 1) * 3 = k * 3 + 3 by omega, take_triple (by omega), ht, List.take_succ_eq_append_getElem hk, cellsM_append]
  rfl
theorem LaidM.done {base g : Nat} {l : List Mat} {wr : World} (h : LaidM base g l l.length wr) : wr.ownsRow base 43 3 (.slice (some ⟨g, 0, none⟩) l.length l.length) l.length (cellsM l) := by
  obtain ⟨cur, ho, ht⟩ := h
  rw [List.take_length, List.take_of_length_le (by rw [ho.1]; exact Nat.le_refl _)] at ht
  rwa [ht] at ho
theorem LaidM.below {base g : Nat} {l : List Mat} {k : Nat} {wr w1 : World} (h : LaidM base g l k wr) (hb : Below wr.heap.size wr w1) : LaidM base g l k w1 := by
  obtain ⟨cur, ho, ht⟩ := h
  refine ⟨cur, ho.kept (row := none) ⟨hb.os, hb.tape, hb.output, hb.size, fun i hi _ => hb.block i hi⟩ ?_, ht⟩
  exact .inr (by simp [Value.ownBlock])

set_option maxHeartbeats 2000000 in
set_option maxRecDepth 100000 in
theorem to56 (ao : Option Addr) (cap : Nat) (l : List Mat) (hF : FitM l) (w : World) (h : MRow w w.heap.size ao l) :
    Calls Tryd.prog 56 #[.slice ao l.length cap] w (MadeM w.heap.size l w) := by
  have H := Lib.hid h
  clear h
  have hn := hF.1
  obtain ⟨i0, hi0, hz0, hz1, hz2⟩ := info_parts Tryd.info43
  go_enter Tryd.func56, Tryd.ntmps56
  go_wp2_with (refine wpList_make_full _ rfl (.tmp 6) (.tmp 6) 50 rfl w.heap.size 43 i0 _ 3 Tryd.underlying50 hi0 hz0 hz1 _ _ _ _ l.length rfl rfl rfl rfl (by rw [hz2]; omega) (by unfold maxLen; omega) (Nat.le_refl _) ?_; intro w1 hown1 hg1; have HO := Lib.hid hown1; have HG := Lib.hid hg1; clear hown1 hg1)
  go_loopw [4] (fun i wr => ∃ k : Nat, k ≤ l.length ∧ i = .int .i64 k ∧ Hid (LaidM w.heap.size w.heap.size l k wr) ∧ Hid (Below w.heap.size w wr)) (fun i _ => l.length - (intOf i).toNat)
  case atStart => exact ⟨0, Nat.zero_le _, rfl, ⟨_, HO.out, by simp [cellsM]⟩, (Below.refl _ _).grown HG.out (Nat.le_refl _) (fun _ h => by cases h)⟩
  case round =>
    obtain ⟨k, hk, rfl, hL, hb⟩ := hrel
    by_cases hlt : k < l.length
    · obtain ⟨b, off, hao, hbl, hc⟩ := H.out (by omega)
      subst hao
      have c0 := (hb.out.cell (p := ⟨b, off + k * 3, none⟩) hbl).trans (hc k hlt).1
      have c1' := (hb.out.cell (p := ⟨b, off + k * 3 + 1, none⟩) hbl).trans (hc k hlt).2.1
      have c2' := (hb.out.cell (p := ⟨b, off + k * 3 + 2, none⟩) hbl).trans (hc k hlt).2.2
      have HS := Lib.hid (fun (w1 : World) (h : LaidM w.heap.size w.heap.size l k w1) => h.step hlt)
      clear hc
      generalize l[k] = x at c0 c1' c2' HS
      obtain ⟨x0, x1, x2⟩ := x
      go_wp2_with fail
      refine (to61 x0 x1 x2 _).mono ?_
      rintro e w2 ⟨rfl, hb2⟩
      have HL := Lib.hid (hL.out.below hb2)
      have HB := Lib.hid (hb.out.trans (hb2.mono hb.out.size))
      clear hb2
      obtain ⟨⟨u1, t1⟩, ⟨u2, t2⟩, ⟨u3, t3⟩, f1, f2, f3⟩ := HL.out.at hlt
      go_wp2
      go_roundw
      case rel => exact ⟨k + 1, by omega, by go_num, HS.out _ HL.out, ((HB.out.setCell (Nat.le_refl _) _).setCell (Nat.le_refl _) _).setCell (Nat.le_refl _) _⟩
      case measure => simp [intOf]; omega
    · obtain rfl : k = l.length := by omega
      go_wp2
      go_ret
      exact ⟨_, rfl, hL.out.done, hb.out⟩
theorem madeM_row {w w' : World} {base : Nat} {l : List Mat} {e : Ending} (h : MadeM base l w e w') : ∃ ao c, e = .returned (.slice ao l.length c) ∧ MRow w' w'.heap.size ao l ∧ Below w.heap.size w w' := by
  obtain ⟨v, rfl, ho, hb⟩ := h
  obtain ⟨ao, c, rfl⟩ := own_slice ho
  exact ⟨ao, c, rfl, (MRow.of_own ho).2, hb⟩

theorem eq62 (k : Int) (a b : ByteArray) (w : World) : Calls Tryd.prog 62 #[matV k a b, matV k a b] w fun e w' => e = .returned (.bool true) ∧ Below w.heap.size w w' := by
  have hkk : (k != k) = false := by simp
  go_enter Tryd.func62, Tryd.ntmps62
  go_wp2
  go_ret
  exact ⟨rfl, ((Below.refl _ _).alloc (Nat.le_refl _) _).alloc (by simp) _⟩

set_option maxHeartbeats 1000000 in
set_option maxRecDepth 100000 in
theorem eq57 (ao bo : Option Addr) (c d : Nat) (l : List Mat) (hF : FitM l) (w : World) (ha : MRow w w.heap.size ao l) (hb : MRow w w.heap.size bo l) :
    Calls Tryd.prog 57 #[.slice ao l.length c, .slice bo l.length d] w fun e w' => e = .returned (.bool true) ∧ Below w.heap.size w w' := by
  have HA := Lib.hid ha
  have HB := Lib.hid hb
  clear ha hb
  have hn := hF.1
  go_enter Tryd.func57, Tryd.ntmps57
  go_wp2
  go_loopw [5] (fun i wr => ∃ k : Nat, k ≤ l.length ∧ i = .int .i64 k ∧ Hid (Below w.heap.size w wr)) (fun i _ => l.length - (intOf i).toNat)
  case atStart => exact ⟨0, Nat.zero_le _, rfl, Below.refl _ _⟩
  case round =>
    obtain ⟨k, hk, rfl, hb⟩ := hrel
    by_cases hlt : k < l.length
    · obtain ⟨b, off, hao, hbl, hc⟩ := HA.out (by omega)
      obtain ⟨b', off', hao', hbl', hc'⟩ := HB.out (by omega)
      subst hao hao'
      have c0 := (hb.out.cell (p := ⟨b, off + k * 3, none⟩) hbl).trans (hc k hlt).1
      have c1 := (hb.out.cell (p := ⟨b, off + k * 3 + 1, none⟩) hbl).trans (hc k hlt).2.1
      have c2 := (hb.out.cell (p := ⟨b, off + k * 3 + 2, none⟩) hbl).trans (hc k hlt).2.2
      have d0 := (hb.out.cell (p := ⟨b', off' + k * 3, none⟩) hbl').trans (hc' k hlt).1
      have d1 := (hb.out.cell (p := ⟨b', off' + k * 3 + 1, none⟩) hbl').trans (hc' k hlt).2.1
      have d2 := (hb.out.cell (p := ⟨b', off' + k * 3 + 2, none⟩) hbl').trans (hc' k hlt).2.2
      clear hc hc'
      generalize l[k] = x at c0 c1 c2 d0 d1 d2
      obtain ⟨x0, x1, x2⟩ := x
      go_wp2
      go_still_tail 8, (by kernel_rfl)
      change wpList _ _ _ _ _ wr.drew
      have HB2 := Lib.hid hb.out.drew
      go_wp2_with fail
      refine (eq62 x0 x1 x2 _).mono ?_
      rintro e w2 ⟨rfl, hb2⟩
      have HB3 := Lib.hid (HB2.out.trans (hb2.mono HB2.out.size))
      clear hb2
      go_wp2
      go_roundw
      case rel => exact ⟨k + 1, by omega, by go_num, HB3⟩
      case measure => simp [intOf]; omega
    · go_wp2
      go_ret
      exact ⟨rfl, hb.out⟩
end Go.Proofs.YtpbcgfgjdimpmaaDoor
