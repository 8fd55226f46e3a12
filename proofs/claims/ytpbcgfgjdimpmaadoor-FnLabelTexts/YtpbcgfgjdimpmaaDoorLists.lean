/- Contracts of the helpers of the exact laws on lists of labels, over this seat's translation: the size, the copy, the comparison. -/
import Derived.Test.YtpbcgfgjdimpmaaDoorNames
import Derived.Test.YtpbcgfgjdimpmaaDoorRow
namespace Go.Proofs.YtpbcgfgjdimpmaaDoor
open Go.RowKit Go.Deep

/-- What a size comes to: below 0, or all of it is within what was left. -/
def Sz (p : Prop) (left : Int) (w : World) (e : Ending) (w' : World) : Prop := ∃ r : Int, e = .returned (.int .i64 r) ∧ -1 ≤ r ∧ r ≤ left ∧ (0 ≤ r → p) ∧ Below w.heap.size w w'

theorem sz83 (a b : ByteArray) (ha : a.size ≤ maxLen) (hb : b.size ≤ maxLen) (left : Int) (h0 : 0 ≤ left) (h1 : left ≤ 1048576) (w : World) :
    Calls Tryd.prog 99 #[.agg #[.string a, .string b], .int .i64 left] w (Sz (a.size ≤ 1048576 ∧ b.size ≤ 1048576) left w) := by
  unfold maxLen at ha hb
  by_cases c1 : left < a.size
  · go_enter Tryd.func99, Tryd.ntmps99
    go_wp2
    go_ret
    exact ⟨-1, rfl, by omega, by omega, fun h => by omega, (Below.refl _ _).alloc (Nat.le_refl _) _⟩
  by_cases c2 : left - a.size < b.size
  · go_enter Tryd.func99, Tryd.ntmps99
    go_wp2
    go_ret
    exact ⟨-1, rfl, by omega, by omega, fun h => by omega, (Below.refl _ _).alloc (Nat.le_refl _) _⟩
  · go_enter Tryd.func99, Tryd.ntmps99
    go_wp2
    go_ret
    exact ⟨_, rfl, by omega, by omega, fun h => by omega, (Below.refl _ _).alloc (Nat.le_refl _) _⟩

/-- Texts within an int's reach. -/
def Fine (l : List Lab) : Prop := l.length ≤ maxLen ∧ ∀ x ∈ l, x.1.size ≤ maxLen ∧ x.2.size ≤ maxLen
theorem Fine.at {l : List Lab} (h : Fine l) {k : Nat} (hk : k < l.length) : (l[k]'hk).1.size ≤ maxLen ∧ (l[k]'hk).2.size ≤ maxLen := h.2 _ (List.getElem_mem hk)

/-- The first k labels are small. -/
def fitTo (l : List Lab) (k : Nat) : Prop := ∀ i (h : i < l.length), i < k → (l[i]'h).1.size ≤ 1048576 ∧ (l[i]'h).2.size ≤ 1048576
theorem fitTo_succ {l : List Lab} {k : Nat} (h : fitTo l k) (hk : k < l.length) (h2 : (l[k]'hk).1.size ≤ 1048576 ∧ (l[k]'hk).2.size ≤ 1048576) : fitTo l (k + 1) := fun i hi hik => by
  by_cases e : i = k
  · subst e; exact h2
  · exact h i hi (by omega)
theorem fit_of {l : List Lab} (h : fitTo l l.length) (hn : l.length ≤ 1048576) : Fit l := ⟨hn, fun x hx => by
  obtain ⟨i, hi, rfl⟩ := List.getElem_of_mem hx
  exact h i hi hi⟩

set_option maxHeartbeats 1000000 in
theorem sz42 (ao : Option Addr) (cap : Nat) (l : List Lab) (hF : Fine l) (left : Int) (h0 : 0 ≤ left) (h1 : left ≤ 1048576) (w : World) (h : LRow w w.heap.size ao l) :
    Calls Tryd.prog 58 #[.slice ao l.length cap, .int .i64 left] w (Sz (Fit l) left w) := by
  have H := Lib.hid h
  clear h
  have hn := hF.1
  unfold maxLen at hn
  by_cases c1 : left < l.length
  · go_enter Tryd.func58, Tryd.ntmps58
    go_wp2
    go_ret
    exact ⟨-1, rfl, by omega, by omega, fun h => by omega, Below.refl _ _⟩
  go_enter Tryd.func58, Tryd.ntmps58
  go_wp2
  go_loopw [1, 5] (fun s i wr => ∃ (k : Nat) (r : Int), k ≤ l.length ∧ i = .int .i64 k ∧ s = .int .i64 r ∧ 0 ≤ r ∧ r ≤ left ∧ Hid (fitTo l k) ∧ Hid (Below w.heap.size w wr)) (fun _ i _ => l.length - (intOf i).toNat)
  case atStart => exact ⟨0, _, Nat.zero_le _, rfl, rfl, by omega, by omega, fun _ _ h => absurd h (by omega), Below.refl _ _⟩
  case round =>
    obtain ⟨k, r, hk, rfl, rfl, hr0, hr1, hf, hb⟩ := hrel
    by_cases hlt : k < l.length
    · obtain ⟨b, off, hao, hbl, hc⟩ := H.out (by omega)
      subst hao
      have c0 := (hb.out.cell (p := ⟨b, off + k * 2, none⟩) hbl).trans (hc k hlt).1
      have c1' := (hb.out.cell (p := ⟨b, off + k * 2 + 1, none⟩) hbl).trans (hc k hlt).2
      have hz := hF.at hlt
      have HN := Lib.hid (fitTo_succ hf.out hlt)
      clear hc
      generalize l[k] = x at c0 c1' hz HN
      obtain ⟨x1, x2⟩ := x
      go_wp2_with fail
      refine (sz83 x1 x2 hz.1 hz.2 r hr0 (by omega) _).mono ?_
      rintro e w1 ⟨r1, rfl, g1, g2, g3, g4⟩
      have HB := Lib.hid (hb.out.trans (g4.mono hb.out.size))
      have G3 := Lib.hid g3
      clear g4 g3
      by_cases hneg : r1 < 0
      · go_wp2
        go_ret
        exact ⟨-1, rfl, by omega, by omega, fun h => by omega, HB.out⟩
      · go_wp2
        go_roundw
        case rel => exact ⟨k + 1, r1, by omega, by go_num, rfl, by omega, by omega, HN.out (G3.out (by omega)), HB⟩
        case measure => simp [intOf]; omega
    · obtain rfl : k = l.length := by omega
      go_wp2
      go_ret
      exact ⟨r, rfl, by omega, by omega, fun _ => fit_of hf.out (by omega), hb.out⟩

/-- What a copy comes to: a row of the call's own that holds the labels. -/
def Made (base : Nat) (l : List Lab) (w : World) (e : Ending) (w' : World) : Prop :=
  ∃ v, e = .returned v ∧ w'.ownsRow base 82 2 v l.length (cellsOf l) ∧ Below w.heap.size w w'

theorem Tryd.info82 : (Tryd.prog.info? 82).map (fun i => (i.zero, i.size, i.bytes)) = some (some (.agg #[.string ⟨#[]⟩, .string ⟨#[]⟩]), 2, 32) := by kernel_rfl

theorem to84 (a b : ByteArray) (w : World) : Calls Tryd.prog 100 #[.agg #[.string a, .string b]] w fun e w' => e = .returned (.agg #[.string a, .string b]) ∧ Below w.heap.size w w' := by
  go_enter Tryd.func100, Tryd.ntmps100
  go_wp2
  exact bodyPost_ret (v := .agg #[.string a, .string b]) (by simp [results, Tryd.results100, go_sem]) rfl ⟨rfl, (((Below.refl _ _).alloc (Nat.le_refl _) _).alloc (by simp) _).alloc (by simp; omega) _⟩

theorem take_pair {cur : List Value} {k : Nat} {a b : Value} (h : k * 2 + 2 ≤ cur.length) : ((cur.set (k * 2) a).set (k * 2 + 1) b).take (k * 2 + 2) = cur.take (k * 2) ++ [a, b] := by
  apply List.ext_getElem?
  intro i
  rw [List.getElem?_take]
  by_cases h1 : i < k * 2
  · rw [if_pos (by omega), List.getElem?_set_ne (by omega), List.getElem?_set_ne (by omega), List.getElem?_append_left (by simp; omega), List.getElem?_take, if_pos h1]
  · by_cases h2 : i = k * 2
    · subst h2
      rw [if_pos (by omega), List.getElem?_set_ne (by omega), List.getElem?_set_self (by omega), List.getElem?_append_right (by simp; omega)]
      simp [Nat.min_eq_left (show k * 2 ≤ cur.length by omega)]
    · by_cases h3 : i = k * 2 + 1
      · subst h3
        rw [if_pos (by omega), List.getElem?_set_self (by simp; omega), List.getElem?_append_right (by simp; omega)]
        simp [Nat.min_eq_left (show k * 2 ≤ cur.length by omega)]
      · rw [if_neg (by omega), List.getElem?_eq_none (by simp; omega)]

/-- The first k labels have been laid. -/
def Laid (base : Nat) (g : Nat) (l : List Lab) (k : Nat) (wr : World) : Prop :=
  ∃ cur, wr.ownsRow base 82 2 (.slice (some ⟨g, 0, none⟩) l.length l.length) l.length cur ∧ cur.take (k * 2) = cellsOf (l.take k)

theorem Laid.at {base g : Nat} {l : List Lab} {k : Nat} {wr : World} (h : Laid base g l k wr) (hk : k < l.length) :
    (∃ u, wr.cell? ⟨g, k * 2, none⟩ = some u) ∧ (∃ u, wr.cell? ⟨g, k * 2 + 1, none⟩ = some u) ∧ wr.frozen? ⟨g, k * 2, none⟩ = false ∧ wr.frozen? ⟨g, k * 2 + 1, none⟩ = false := by
  obtain ⟨cur, ho, _⟩ := h
  have hl := ho.1
  exact ⟨⟨cur[k * 2]'(by omega), by rw [ho.cellAt _ (by omega), List.getElem?_eq_getElem]⟩, ⟨cur[k * 2 + 1]'(by omega), by rw [ho.cellAt _ (by omega), List.getElem?_eq_getElem]⟩, ho.frozenAt _, ho.frozenAt _⟩

theorem Laid.step {base g : Nat} {l : List Lab} {k : Nat} {wr : World} (h : Laid base g l k wr) (hk : k < l.length) :
    Laid base g l (k + 1) ((wr.setCell ⟨g, k * 2, none⟩ (.string l[k].1)).setCell ⟨g, k * 2 + 1, none⟩ (.string l[k].2)) := by
  obtain ⟨cur, ho, ht⟩ := h
  have hl := ho.1
  refine ⟨_, ((ho.stored (k * 2) _).1.stored (k * 2 + 1) _).1, ?_⟩
  rw [show (k + 1) * 2 = k * 2 + 2 by omega, take_pair (by omega), ht, List.take_succ_eq_append_getElem hk, cellsOf_append]
  rfl

theorem Laid.done {base g : Nat} {l : List Lab} {wr : World} (h : Laid base g l l.length wr) : wr.ownsRow base 82 2 (.slice (some ⟨g, 0, none⟩) l.length l.length) l.length (cellsOf l) := by
  obtain ⟨cur, ho, ht⟩ := h
  rw [List.take_length, List.take_of_length_le (by rw [ho.1]; exact Nat.le_refl _)] at ht
  rwa [ht] at ho

theorem Laid.below {base g : Nat} {l : List Lab} {k : Nat} {wr w1 : World} (h : Laid base g l k wr) (hb : Below wr.heap.size wr w1) : Laid base g l k w1 := by
  obtain ⟨cur, ho, ht⟩ := h
  refine ⟨cur, ho.kept (row := none) ⟨hb.os, hb.tape, hb.output, hb.size, fun i hi _ => hb.block i hi⟩ ?_, ht⟩
  exact .inr (by simp [Value.ownBlock])

set_option maxHeartbeats 1000000 in
theorem to43 (ao : Option Addr) (cap : Nat) (l : List Lab) (hF : Fit l) (w : World) (h : LRow w w.heap.size ao l) :
    Calls Tryd.prog 60 #[.slice ao l.length cap] w (Made w.heap.size l w) := by
  have H := Lib.hid h
  clear h
  have hn := hF.1
  obtain ⟨i0, hi0, hz0, hz1, hz2⟩ := info_parts Tryd.info82
  go_enter Tryd.func60, Tryd.ntmps60
  go_wp2_with (refine wpList_make_full _ rfl (.tmp 6) (.tmp 6) 24 rfl w.heap.size 82 i0 _ 2 Tryd.underlying24 hi0 hz0 hz1 _ _ _ _ l.length rfl rfl rfl rfl (by rw [hz2]; omega) (by unfold maxLen; omega) (Nat.le_refl _) ?_; intro w1 hown1 hg1; have HO := Lib.hid hown1; have HG := Lib.hid hg1; clear hown1 hg1)
  go_loopw [4] (fun i wr => ∃ k : Nat, k ≤ l.length ∧ i = .int .i64 k ∧ Hid (Laid w.heap.size w.heap.size l k wr) ∧ Hid (Below w.heap.size w wr)) (fun i _ => l.length - (intOf i).toNat)
  case atStart => exact ⟨0, Nat.zero_le _, rfl, ⟨_, HO.out, by simp [cellsOf]⟩, (Below.refl _ _).grown HG.out (Nat.le_refl _) (fun _ h => by cases h)⟩
  case round =>
    obtain ⟨k, hk, rfl, hL, hb⟩ := hrel
    by_cases hlt : k < l.length
    · obtain ⟨b, off, hao, hbl, hc⟩ := H.out (by omega)
      subst hao
      have c0 := (hb.out.cell (p := ⟨b, off + k * 2, none⟩) hbl).trans (hc k hlt).1
      have c1' := (hb.out.cell (p := ⟨b, off + k * 2 + 1, none⟩) hbl).trans (hc k hlt).2
      have HS := Lib.hid (fun (w1 : World) (h : Laid w.heap.size w.heap.size l k w1) => h.step hlt)
      clear hc
      generalize l[k] = x at c0 c1' HS
      obtain ⟨x1, x2⟩ := x
      go_wp2_with fail
      refine (to84 x1 x2 _).mono ?_
      rintro e w2 ⟨rfl, hb2⟩
      have HL := Lib.hid (hL.out.below hb2)
      have HB := Lib.hid (hb.out.trans (hb2.mono hb.out.size))
      clear hb2
      obtain ⟨⟨u1, t1⟩, ⟨u2, t2⟩, f1, f2⟩ := HL.out.at hlt
      go_wp2
      go_roundw
      case rel => exact ⟨k + 1, by omega, by go_num, HS.out _ HL.out, (HB.out.setCell (Nat.le_refl _) _).setCell (Nat.le_refl _) _⟩
      case measure => simp [intOf]; omega
    · obtain rfl : k = l.length := by omega
      go_wp2
      go_ret
      exact ⟨_, rfl, hL.out.done, hb.out⟩
end Go.Proofs.YtpbcgfgjdimpmaaDoor
