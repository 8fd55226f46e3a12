/- Contracts of the helpers of the exact laws on lists of texts, over this seat's translation: the size, the copy, the comparison, the marks, and what is among texts. -/
import Derived.Test.YtoelcbfbpijfcaaDoorMark
namespace Go.Proofs.YtoelcbfbpijfcaaDoor
open Go.RowKit Go.Deep Go.WideShapes

/-- The slice (ao, l.length) holds the texts l, in a block below B. -/
def TRow (w : World) (B : Nat) (ao : Option Addr) (l : List ByteArray) : Prop :=
  0 < l.length → ∃ b off, ao = some ⟨b, off, none⟩ ∧ b < B ∧ ∀ k (h : k < l.length), w.cell? ⟨b, off + k, none⟩ = some (.string (l[k]'h))
def FineT (l : List ByteArray) : Prop := l.length ≤ maxLen ∧ ∀ x ∈ l, x.size ≤ maxLen
def FitT (l : List ByteArray) : Prop := l.length ≤ 1048576 ∧ ∀ x ∈ l, x.size ≤ 1048576
theorem FineT.at {l : List ByteArray} (h : FineT l) {k : Nat} (hk : k < l.length) : (l[k]'hk).size ≤ maxLen := h.2 _ (List.getElem_mem hk)
theorem TRow.keep {w w' : World} {B : Nat} {ao : Option Addr} {l : List ByteArray} (h : TRow w B ao l) (hk : ∀ p : Addr, p.block < B → w'.cell? p = w.cell? p) : TRow w' B ao l := fun hl => by
  obtain ⟨b, off, e, hb, hc⟩ := h hl
  exact ⟨b, off, e, hb, fun k hk' => (hk _ hb).trans (hc k hk')⟩
theorem TRow.more {w : World} {B B' : Nat} {ao : Option Addr} {l : List ByteArray} (h : TRow w B ao l) (hB : B ≤ B') : TRow w B' ao l := fun hl => by
  obtain ⟨b, off, e, hb, hc⟩ := h hl
  exact ⟨b, off, e, Nat.lt_of_lt_of_le hb hB, hc⟩
theorem TRow.after {w w' : World} {ao : Option Addr} {l : List ByteArray} (h : TRow w w.heap.size ao l) (hb : Below w.heap.size w w') : TRow w' w'.heap.size ao l := (h.keep fun _ hp => hb.cell hp).more hb.size
theorem TRow.of_own {w : World} {base : Nat} {e : TypeId} {ao : Option Addr} {n c : Nat} {l : List ByteArray} (h : w.ownsRow base e 1 (.slice ao n c) n (l.map Value.string)) : n = l.length ∧ TRow w w.heap.size ao l := by
  have hn : n = l.length := by
    have := h.1
    simp at this
    omega
  refine ⟨hn, fun hl => ?_⟩
  obtain ⟨g, cap, hv, _, hlt⟩ := h.form (by omega)
  injection hv with hA
  subst hA
  have hc := h.cells (g := g) rfl
  refine ⟨g, 0, rfl, hlt, fun k hk => ?_⟩
  have := hc k (.string l[k]) (by simp [hk])
  rwa [add_plain] at this

def fitToT (l : List ByteArray) (k : Nat) : Prop := ∀ i (h : i < l.length), i < k → (l[i]'h).size ≤ 1048576
theorem fitToT_succ {l : List ByteArray} {k : Nat} (h : fitToT l k) (hk : k < l.length) (h2 : (l[k]'hk).size ≤ 1048576) : fitToT l (k + 1) := fun i hi hik => by
  by_cases e : i = k
  · subst e; exact h2
  · exact h i hi (by omega)
theorem fitT_of {l : List ByteArray} (h : fitToT l l.length) (hn : l.length ≤ 1048576) : FitT l := ⟨hn, fun x hx => by
  obtain ⟨i, hi, rfl⟩ := List.getElem_of_mem hx
  exact h i hi hi⟩

set_option maxHeartbeats 1000000 in
theorem sz47 (ao : Option Addr) (cap : Nat) (l : List ByteArray) (hF : FineT l) (left : Int) (h0 : 0 ≤ left) (h1 : left ≤ 1048576) (w : World) (h : TRow w w.heap.size ao l) :
    Calls Tryd.prog 47 #[.slice ao l.length cap, .int .i64 left] w (Sz (FitT l) left w) := by
  have H := Lib.hid h
  clear h
  have hn := hF.1
  unfold maxLen at hn
  by_cases c1 : left < l.length
  · go_enter Tryd.func47, Tryd.ntmps47
    go_wp2
    go_ret
    exact ⟨-1, rfl, by omega, by omega, fun h => by omega, Below.refl _ _⟩
  go_enter Tryd.func47, Tryd.ntmps47
  go_wp2
  go_loop [1, 5] (fun s i => ∃ (k : Nat) (r : Int), k ≤ l.length ∧ i = .int .i64 k ∧ s = .int .i64 r ∧ 0 ≤ r ∧ r ≤ left ∧ Hid (fitToT l k)) (fun _ i => l.length - (intOf i).toNat)
  case atStart => exact ⟨0, _, Nat.zero_le _, rfl, rfl, by omega, by omega, fun _ _ h => absurd h (by omega)⟩
  case round =>
    obtain ⟨k, r, hk, rfl, rfl, hr0, hr1, hf⟩ := hrel
    by_cases hlt : k < l.length
    · obtain ⟨b, off, hao, hbl, hc⟩ := H.out (by omega)
      subst hao
      have c0 := hc k hlt
      have hz := hF.at hlt
      unfold maxLen at hz
      have HN := Lib.hid (fitToT_succ hf.out hlt)
      clear hc
      generalize l[k] = x at c0 hz HN
      by_cases hneg : r < x.size
      · go_wp2
        go_ret
        exact ⟨-1, rfl, by omega, by omega, fun h => by omega, Below.refl _ _⟩
      · go_wp2
        go_round
        case rel => exact ⟨k + 1, r - x.size, by omega, by go_num, by go_num, by omega, by omega, HN.out (by omega)⟩
        case measure => simp [intOf]; omega
    · obtain rfl : k = l.length := by omega
      go_wp2
      go_ret
      exact ⟨r, rfl, by omega, by omega, fun _ => fitT_of hf.out (by omega), Below.refl _ _⟩

theorem Tryd.info9 : (Tryd.prog.info? 9).map (fun i => (i.zero, i.size, i.bytes)) = some (some (.string ⟨#[]⟩), 1, 16) := by kernel_rfl

/-- The first k texts have been laid. -/
def LaidT (base g c n : Nat) (l : List ByteArray) (k : Nat) (wr : World) : Prop :=
  ∃ cur, wr.ownsRow base 9 1 (.slice (some ⟨g, 0, none⟩) n c) n cur ∧ cur.take k = (l.take k).map Value.string
theorem LaidT.at {base g c n : Nat} {l : List ByteArray} {k : Nat} {wr : World} (h : LaidT base g c n l k wr) (hk : k < n) : (∃ u, wr.cell? ⟨g, k, none⟩ = some u) ∧ wr.frozen? ⟨g, k, none⟩ = false := by
  obtain ⟨cur, ho, _⟩ := h
  have hl := ho.1
  exact ⟨⟨cur[k]'(by omega), by rw [ho.cellAt _ (by omega), List.getElem?_eq_getElem]⟩, ho.frozenAt _⟩
theorem take_one {cur : List Value} {k : Nat} {a : Value} (h : k < cur.length) : (cur.set k a).take (k + 1) = cur.take k ++ [a] := by
  rw [List.take_succ_eq_append_getElem (by simpa using h), List.getElem_set_self, List.take_set_of_le (Nat.le_refl _)]
theorem LaidT.step {base g c n : Nat} {l : List ByteArray} {k : Nat} {wr : World} (h : LaidT base g c n l k wr) (hl : l.length = n) (hk : k < l.length) :
    LaidT base g c n l (k + 1) (wr.setCell ⟨g, k, none⟩ (.string l[k])) ∧ wr.grownBy (wr.setCell ⟨g, k, none⟩ (.string l[k])) (some g) := by
  obtain ⟨cur, ho, ht⟩ := h
  have hl' := ho.1
  refine ⟨⟨_, (ho.stored k _).1, ?_⟩, (ho.stored k _).2⟩
  rw [take_one (by omega), ht, List.take_succ_eq_append_getElem hk, List.map_append]
  rfl
theorem LaidT.below {base g c n : Nat} {l : List ByteArray} {k : Nat} {wr w1 : World} (h : LaidT base g c n l k wr) (hb : Below wr.heap.size wr w1) : LaidT base g c n l k w1 := by
  obtain ⟨cur, ho, ht⟩ := h
  exact ⟨cur, own_below ho hb, ht⟩
theorem LaidT.done {base g c n : Nat} {l : List ByteArray} {wr : World} (h : LaidT base g c n l n wr) (hl : l.length = n) : wr.ownsRow base 9 1 (.slice (some ⟨g, 0, none⟩) n c) n (l.map Value.string) := by
  obtain ⟨cur, ho, ht⟩ := h
  subst hl
  rw [List.take_length, List.take_of_length_le (by rw [ho.1]; omega)] at ht
  rwa [ht] at ho

/-- What a copy of texts comes to. -/
def MadeT (base : Nat) (l : List ByteArray) (w : World) (e : Ending) (w' : World) : Prop :=
  ∃ ao c, e = .returned (.slice ao l.length c) ∧ w'.ownsRow base 9 1 (.slice ao l.length c) l.length (l.map Value.string) ∧ Below w.heap.size w w'

set_option maxHeartbeats 1000000 in
theorem to48 (ao : Option Addr) (cap : Nat) (l : List ByteArray) (hF : FitT l) (w : World) (h : TRow w w.heap.size ao l) :
    Calls Tryd.prog 48 #[.slice ao l.length cap] w (MadeT w.heap.size l w) := by
  have H := Lib.hid h
  clear h
  have hn := hF.1
  obtain ⟨i0, hi0, hz0, hz1, hz2⟩ := info_parts Tryd.info9
  go_enter Tryd.func48, Tryd.ntmps48
  go_wp2_with (refine wpList_make_full _ rfl (.tmp 6) (.tmp 6) 46 rfl w.heap.size 9 i0 _ 1 Tryd.underlying46 hi0 hz0 hz1 _ _ _ _ l.length rfl rfl rfl rfl (by rw [hz2]; omega) (by unfold maxLen; omega) (Nat.le_refl _) ?_; intro w1 hown1 hg1; have HO := Lib.hid hown1; have HG := Lib.hid hg1; clear hown1 hg1)
  go_loopw [4] (fun i wr => ∃ k : Nat, k ≤ l.length ∧ i = .int .i64 k ∧ Hid (LaidT w.heap.size w.heap.size l.length l.length l k wr) ∧ Hid (Below w.heap.size w wr)) (fun i _ => l.length - (intOf i).toNat)
  case atStart => exact ⟨0, Nat.zero_le _, rfl, ⟨_, HO.out, by simp⟩, (Below.refl _ _).grown HG.out (Nat.le_refl _) (fun _ h => by cases h)⟩
  case round =>
    obtain ⟨k, hk, rfl, hL, hb⟩ := hrel
    by_cases hlt : k < l.length
    · obtain ⟨b, off, hao, hbl, hc⟩ := H.out (by omega)
      subst hao
      have c0 := (hb.out.cell (p := ⟨b, off + k, none⟩) hbl).trans (hc k hlt)
      have HS := Lib.hid (hL.out.step rfl hlt)
      obtain ⟨⟨u1, t1⟩, f1⟩ := hL.out.at hlt
      clear hc
      generalize l[k] = x at c0 HS
      go_wp2
      go_roundw
      case rel => exact ⟨k + 1, by omega, by go_num, HS.out.1, hb.out.setCell (Nat.le_refl _) _⟩
      case measure => simp [intOf]; omega
    · obtain rfl : k = l.length := by omega
      go_wp2
      go_ret
      exact ⟨_, _, rfl, hL.out.done rfl, hb.out⟩

set_option maxHeartbeats 1000000 in
set_option maxRecDepth 100000 in
theorem eq49 (ao bo : Option Addr) (c d : Nat) (l : List ByteArray) (hF : FitT l) (w : World) (ha : TRow w w.heap.size ao l) (hb : TRow w w.heap.size bo l) :
    Calls Tryd.prog 49 #[.slice ao l.length c, .slice bo l.length d] w fun e w' => e = .returned (.bool true) ∧ Below w.heap.size w w' := by
  have HA := Lib.hid ha
  have HB := Lib.hid hb
  clear ha hb
  have hn := hF.1
  go_enter Tryd.func49, Tryd.ntmps49
  go_wp2
  go_loopw [5] (fun i wr => ∃ k : Nat, k ≤ l.length ∧ i = .int .i64 k ∧ Hid (Below w.heap.size w wr)) (fun i _ => l.length - (intOf i).toNat)
  case atStart => exact ⟨0, Nat.zero_le _, rfl, Below.refl _ _⟩
  case round =>
    obtain ⟨k, hk, rfl, hb⟩ := hrel
    by_cases hlt : k < l.length
    · obtain ⟨b, off, hao, hbl, hc⟩ := HA.out (by omega)
      obtain ⟨b', off', hao', hbl', hc'⟩ := HB.out (by omega)
      subst hao hao'
      have c0 := (hb.out.cell (p := ⟨b, off + k, none⟩) hbl).trans (hc k hlt)
      have d0 := (hb.out.cell (p := ⟨b', off' + k, none⟩) hbl').trans (hc' k hlt)
      clear hc hc'
      generalize l[k] = x at c0 d0
      have hss : (x.toList != x.toList) = false := by simp
      go_wp2
      go_quiet (fail)
      go_wp2
      go_roundw
      case rel => exact ⟨k + 1, by omega, by go_num, below_drewN hb.out _⟩
      case measure => simp [intOf]; omega
    · go_wp2
      go_ret
      exact ⟨rfl, hb.out⟩

/-- The marks that a list of n texts is given from k on. -/
def marksT (n k : Nat) : List ByteArray := (List.range n).map fun i => mk (k + i)
theorem marksT_length (n k : Nat) : (marksT n k).length = n := by simp [marksT]
theorem marksT_at {n k i : Nat} (h : i < (marksT n k).length) : (marksT n k)[i] = mk (k + i) := by simp [marksT]

/-- What marking texts comes to. -/
def MarkedT (n k : Nat) (v : Value) (w : World) (e : Ending) (w' : World) : Prop :=
  e = .returned (.int .i64 ((k + n : Nat) : Int)) ∧ w.grownBy w' v.ownBlock

set_option maxHeartbeats 1000000 in
set_option maxRecDepth 100000 in
theorem mark50 (base n k : Nat) (v : Value) (xs : List Value) (hn : n ≤ 1048576) (hk : k ≤ 4194304) (w : World) (h : w.ownsRow base 9 1 v n xs) :
    Calls Tryd.prog 50 #[v, .int .i64 k] w (MarkedT n k v w) := by
  rcases h.2 with ⟨rfl, rfl⟩ | ⟨g, c, _, rfl, _⟩
  · go_enter Tryd.func50, Tryd.ntmps50
    go_wp2
    refine wp_loop_rounds 1 ?_
    rw [rounds_succ]
    go_wp2
    go_ret
    exact ⟨rfl, World.grownBy.refl _ _⟩
  · have HM := Lib.hid (show LaidT base g c n (marksT n k) 0 w from ⟨xs, h, by simp⟩)
    have hml := Lib.hid (marksT_length n k)
    clear h
    go_enter Tryd.func50, Tryd.ntmps50
    go_wp2
    go_loopw [1, 5] (fun q i wr => ∃ j : Nat, j ≤ n ∧ i = .int .i64 j ∧ q = .int .i64 ((k + j : Nat) : Int) ∧ Hid (LaidT base g c n (marksT n k) j wr) ∧ Hid (w.grownBy wr (some g))) (fun _ i _ => n - (intOf i).toNat)
    case atStart => exact ⟨0, Nat.zero_le _, rfl, rfl, HM, World.grownBy.refl _ _⟩
    case round =>
      obtain ⟨j, hj, rfl, rfl, hL, hG⟩ := hrel
      by_cases hlt : j < n
      · have hlt' : j < (marksT n k).length := by rw [hml.out]; exact hlt
        have HS := Lib.hid (fun (w1 : World) (h : LaidT base g c n (marksT n k) j w1) => h.step hml.out hlt')
        rw [marksT_at hlt'] at HS
        go_wp2_with fail
        refine (mark86i _ (k + j) (by omega) (by omega) _).mono ?_
        rintro e w1 ⟨rfl, hb1⟩
        have HL1 := Lib.hid (hL.out.below hb1)
        have HG1 := Lib.hid (gb_trans hG.out (gb_below hb1))
        obtain ⟨⟨u1, t1⟩, f1⟩ := HL1.out.at hlt
        have HS2 := Lib.hid (HS.out _ HL1.out)
        clear hb1 HS
        generalize mk (k + j) = m1 at HS2
        go_wp2
        go_roundw
        case rel => exact ⟨j + 1, by omega, by go_num, by go_num, HS2.out.1, gb_trans HG1.out HS2.out.2⟩
        case measure => simp [intOf]; omega
      · obtain rfl : j = n := by omega
        go_wp2
        go_ret
        exact ⟨rfl, hG.out⟩
end Go.Proofs.YtoelcbfbpijfcaaDoor
