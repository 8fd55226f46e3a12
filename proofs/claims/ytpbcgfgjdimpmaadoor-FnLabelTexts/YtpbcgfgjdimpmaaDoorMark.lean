/- Contracts of the marks of the exact laws, over this seat's translation: a list that is marked holds the marks, and nothing else has turned. -/
import Derived.Test.YtpbcgfgjdimpmaaDoorEq
import Derived.Deep.RegionHeld3
namespace Go.Proofs.YtpbcgfgjdimpmaaDoor
open Go.RowKit Go.Deep

def digit (n : Nat) : UInt8 := UInt8.ofNat (48 + n % 10)
def digs (k : Nat) (acc : List UInt8) : List UInt8 := if h : k = 0 then acc else digs (k / 10) (digit k :: acc)
termination_by k
decreasing_by omega
/-- The mark of a number. -/
def mk (k : Nat) : ByteArray := if k = 0 then ⟨#[109, 48]⟩ else ⟨(109 :: digs k []).toArray⟩

theorem digs_step {k : Nat} (h : 0 < k) (acc : List UInt8) : digs k acc = digs (k / 10) (digit k :: acc) := by
  rw [digs, dif_neg (by omega)]
theorem digs_zero (acc : List UInt8) : digs 0 acc = acc := by rw [digs, dif_pos rfl]

theorem conv_one (w : World) (n : Int) : (convert 22 9 (.slice (some ⟨w.heap.size, 0, none⟩) 1 1)).run Tryd.prog (w.alloc (.cells #[.int .u8 n] 5)) = .ok (.string ⟨#[UInt8.ofNat n.toNat]⟩) (w.alloc (.cells #[.int .u8 n] 5)) := by
  rw [run_convert_bytes_string _ 22 9 5 _ 1 1 Tryd.underlying22 Tryd.underlying5 Tryd.underlying9, run_bytesToString _ _ 1 1 [n] (by simp [go_sem])]
  rfl
theorem digit_eq (j : Nat) : UInt8.ofNat ((48 : Int) + (j : Int) % 10).toNat = digit j := by
  unfold digit
  congr 1
theorem ret_strm {a b : ByteArray} (h : a = b) : Ending.returned (.string b) = .returned (.string a) := by rw [h]
theorem cons_str (d : UInt8) (acc : List UInt8) : (⟨#[d]⟩ : ByteArray) ++ ⟨acc.toArray⟩ = ⟨(d :: acc).toArray⟩ := by
  rw [ByteArray.mk_append_mk]; simp

set_option maxHeartbeats 1000000 in
set_option maxRecDepth 100000 in
theorem mark86 (k : Nat) (hk : k ≤ 8388608) (w : World) : Calls Tryd.prog 98 #[.int .i64 k] w fun e w' => e = .returned (.string (mk k)) ∧ Below w.heap.size w w' := by
  by_cases h0 : k = 0
  · subst h0
    go_enter Tryd.func98, Tryd.ntmps98
    go_wp2
    go_ret
    exact ⟨rfl, Below.refl _ _⟩
  have hp : 0 < k := by omega
  go_enter Tryd.func98, Tryd.ntmps98
  go_wp2
  go_loopw [0, 3] (fun i s wr => ∃ (j : Nat) (acc : List UInt8), j ≤ 8388608 ∧ i = .int .i64 j ∧ s = .string ⟨acc.toArray⟩ ∧ Hid (digs j acc = digs k []) ∧ acc.length + j ≤ 8388608 ∧ Hid (Below w.heap.size w wr)) (fun i _ _ => (intOf i).toNat)
  case atStart => exact ⟨k, [], hk, rfl, rfl, rfl, by simp; omega, Below.refl _ _⟩
  case round =>
    obtain ⟨j, acc, hj, rfl, rfl, hd, hl, hb⟩ := hrel
    by_cases hlt : 0 < j
    · have hcv := conv_one wr ((48 : Int) + (j : Int) % 10)
      have hdg := digit_eq j
      have hcs := cons_str (digit j) acc
      have HD := Lib.hid ((digs_step hlt acc).symm.trans hd.out)
      go_wp2
      go_roundw
      case rel => exact ⟨j / 10, digit j :: acc, by omega, by go_num, rfl, HD, by simp; omega, hb.out.alloc hb.out.size _⟩
      case measure => simp [intOf]; omega
    · obtain rfl : j = 0 := by omega
      have HD := Lib.hid ((digs_zero acc).symm.trans hd.out)
      have hcs := cons_str 109 acc
      go_wp2
      go_ret
      exact ⟨ret_strm (by rw [mk, if_neg h0, HD.out]), hb.out⟩

theorem mark86i (z : Int) (k : Nat) (hz : z = (k : Int)) (hk : k ≤ 8388608) (w : World) : Calls Tryd.prog 98 #[.int .i64 z] w fun e w' => e = .returned (.string (mk k)) ∧ Below w.heap.size w w' := by
  subst hz; exact mark86 k hk w

theorem gb_trans {a b c : World} {row : Option Nat} (h : a.grownBy b row) (k : b.grownBy c row) : a.grownBy c row :=
  ⟨k.os.trans h.os, k.tape.trans h.tape, k.output.trans h.output, Nat.le_trans h.size k.size, fun i hi hne => (k.block i (Nat.lt_of_lt_of_le hi h.size) hne).trans (h.block i hi hne)⟩
theorem gb_below {a b : World} {row : Option Nat} (h : Below a.heap.size a b) : a.grownBy b row := ⟨h.os, h.tape, h.output, h.size, fun i hi _ => h.block i hi⟩
theorem own_below {w w' : World} {base : Nat} {e : TypeId} {size n : Nat} {v : Value} {xs : List Value} (h : w.ownsRow base e size v n xs) (hb : Below w.heap.size w w') : w'.ownsRow base e size v n xs :=
  h.kept (row := none) (gb_below hb) (by cases hv : v.ownBlock <;> simp)

/-- The marks that a list of n labels is given from k on. -/
def marks (n k : Nat) : List Lab := (List.range n).map fun i => (mk (k + 2 * i), mk (k + 2 * i + 1))
theorem marks_length (n k : Nat) : (marks n k).length = n := by simp [marks]
theorem marks_at {n k i : Nat} (h : i < (marks n k).length) : (marks n k)[i] = (mk (k + 2 * i), mk (k + 2 * i + 1)) := by simp [marks]

/-- The first i labels have been marked. -/
def MarkedTo (base g c : Nat) (l : List Lab) (i : Nat) (wr : World) : Prop :=
  ∃ cur, wr.ownsRow base 82 2 (.slice (some ⟨g, 0, none⟩) l.length c) l.length cur ∧ cur.take (i * 2) = cellsOf (l.take i)

theorem MarkedTo.at {base g c : Nat} {l : List Lab} {i : Nat} {wr : World} (h : MarkedTo base g c l i wr) (hi : i < l.length) : (∃ u, wr.cell? ⟨g, i * 2, none⟩ = some u) ∧ wr.frozen? ⟨g, i * 2, none⟩ = false := by
  obtain ⟨cur, ho, _⟩ := h
  have hl := ho.1
  exact ⟨⟨cur[i * 2]'(by omega), by rw [ho.cellAt _ (by omega), List.getElem?_eq_getElem]⟩, ho.frozenAt _⟩
theorem MarkedTo.half {base g c : Nat} {l : List Lab} {i : Nat} {w1 w2 : World} {a : Value} (h : MarkedTo base g c l i w1) (hi : i < l.length) (hb : Below (w1.setCell ⟨g, i * 2, none⟩ a).heap.size (w1.setCell ⟨g, i * 2, none⟩ a) w2) :
    (∃ u, w2.cell? ⟨g, i * 2 + 1, none⟩ = some u) ∧ w2.frozen? ⟨g, i * 2 + 1, none⟩ = false := by
  obtain ⟨cur, ho, _⟩ := h
  have ho2 := own_below (ho.stored (i * 2) a).1 hb
  have hl := ho2.1
  exact ⟨⟨(cur.set (i * 2) a)[i * 2 + 1]'(by omega), by rw [ho2.cellAt _ (by omega), List.getElem?_eq_getElem]⟩, ho2.frozenAt _⟩
theorem MarkedTo.step {base g c : Nat} {l : List Lab} {i : Nat} {w1 w2 : World} (h : MarkedTo base g c l i w1) (hi : i < l.length) (hb : Below (w1.setCell ⟨g, i * 2, none⟩ (.string l[i].1)).heap.size (w1.setCell ⟨g, i * 2, none⟩ (.string l[i].1)) w2) :
    MarkedTo base g c l (i + 1) (w2.setCell ⟨g, i * 2 + 1, none⟩ (.string l[i].2)) ∧ w1.grownBy (w2.setCell ⟨g, i * 2 + 1, none⟩ (.string l[i].2)) (some g) := by
  obtain ⟨cur, ho, ht⟩ := h
  have hl := ho.1
  have ho2 := own_below (ho.stored (i * 2) (.string l[i].1)).1 hb
  refine ⟨⟨_, (ho2.stored (i * 2 + 1) _).1, ?_⟩, gb_trans (gb_trans (ho.stored (i * 2) _).2 (gb_below hb)) (ho2.stored (i * 2 + 1) _).2⟩
  rw [show (i + 1) * 2 = i * 2 + 2 by omega, take_pair (by omega), ht, List.take_succ_eq_append_getElem hi, cellsOf_append]
  rfl
theorem MarkedTo.below {base g c : Nat} {l : List Lab} {i : Nat} {wr w1 : World} (h : MarkedTo base g c l i wr) (hb : Below wr.heap.size wr w1) : MarkedTo base g c l i w1 := by
  obtain ⟨cur, ho, ht⟩ := h
  exact ⟨cur, own_below ho hb, ht⟩
theorem MarkedTo.done {base g c n : Nat} {l : List Lab} {wr : World} (hn : l.length = n) (h : MarkedTo base g c l n wr) : wr.ownsRow base 82 2 (.slice (some ⟨g, 0, none⟩) n c) n (cellsOf l) := by
  subst hn
  obtain ⟨cur, ho, ht⟩ := h
  rw [List.take_length, List.take_of_length_le (by rw [ho.1]; exact Nat.le_refl _)] at ht
  rwa [ht] at ho

/-- What marking comes to. -/
def Marked (base n k : Nat) (v : Value) (w : World) (e : Ending) (w' : World) : Prop :=
  e = .returned (.int .i64 ((k + 2 * n : Nat) : Int)) ∧ w'.ownsRow base 82 2 v n (cellsOf (marks n k)) ∧ w.grownBy w' v.ownBlock

set_option maxHeartbeats 1000000 in
set_option maxRecDepth 100000 in
theorem mark45 (base n k : Nat) (v : Value) (xs : List Value) (hn : n ≤ 1048576) (hk : k ≤ 2097152) (w : World) (h : w.ownsRow base 82 2 v n xs) :
    Calls Tryd.prog 53 #[v, .int .i64 k] w (Marked base n k v w) := by
  rcases h.2 with ⟨rfl, rfl⟩ | ⟨g, c, _, rfl, _⟩
  · go_enter Tryd.func53, Tryd.ntmps53
    go_wp2
    refine wp_loop_rounds 1 ?_
    rw [rounds_succ]
    go_wp2
    go_ret
    exact ⟨rfl, ⟨rfl, .inl ⟨rfl, rfl⟩⟩, World.grownBy.refl _ _⟩
  · have HM := Lib.hid (show MarkedTo base g c (marks n k) 0 w from ⟨xs, by rw [marks_length]; exact h, by simp [cellsOf]⟩)
    have hml := Lib.hid (marks_length n k)
    clear h
    go_enter Tryd.func53, Tryd.ntmps53
    go_wp2
    go_loopw [1, 5] (fun q i wr => ∃ j : Nat, j ≤ n ∧ i = .int .i64 j ∧ q = .int .i64 ((k + 2 * j : Nat) : Int) ∧ Hid (MarkedTo base g c (marks n k) j wr) ∧ Hid (w.grownBy wr (some g))) (fun _ i _ => n - (intOf i).toNat)
    case atStart => exact ⟨0, Nat.zero_le _, rfl, rfl, HM, World.grownBy.refl _ _⟩
    case round =>
      obtain ⟨j, hj, rfl, rfl, hL, hG⟩ := hrel
      by_cases hlt : j < n
      · have hlt' : j < (marks n k).length := by rw [hml.out]; exact hlt
        have HS := Lib.hid (fun (w1 w2 : World) (h : MarkedTo base g c (marks n k) j w1) => h.step (w2 := w2) hlt')
        have HH := Lib.hid (fun (w1 w2 : World) (a : Value) (h : MarkedTo base g c (marks n k) j w1) => h.half (w2 := w2) (a := a) hlt')
        rw [marks_at hlt'] at HS
        go_wp2_with fail
        refine (mark86i _ (k + 2 * j) (by omega) (by omega) _).mono ?_
        rintro e w1 ⟨rfl, hb1⟩
        have HL1 := Lib.hid (hL.out.below hb1)
        have HG1 := Lib.hid (gb_trans hG.out (gb_below hb1))
        obtain ⟨⟨u1, t1⟩, f1⟩ := HL1.out.at hlt'
        clear hb1
        generalize mk (k + 2 * j) = m1 at HS
        go_wp2_with fail
        refine (mark86i _ (k + 2 * j + 1) (by omega) (by omega) _).mono ?_
        rintro e w2 ⟨rfl, hb2⟩
        obtain ⟨⟨u2, t2⟩, f2⟩ := HH.out _ _ _ HL1.out hb2
        have HS2 := Lib.hid (HS.out _ _ HL1.out hb2)
        clear hb2
        generalize mk (k + 2 * j + 1) = m2 at HS2
        go_wp2
        go_roundw
        case rel => exact ⟨j + 1, by omega, by go_num, by go_num, HS2.out.1, gb_trans HG1.out HS2.out.2⟩
        case measure => simp [intOf]; omega
      · obtain rfl : j = n := by omega
        go_wp2
        go_ret
        exact ⟨rfl, MarkedTo.done hml.out hL.out, hG.out⟩

set_option maxHeartbeats 1000000 in
set_option maxRecDepth 100000 in
theorem held46 (n k : Nat) (ao : Option Addr) (c : Nat) (hn : n ≤ 1048576) (hk : k ≤ 2097152) (w : World) (h : LRow w w.heap.size ao (marks n k)) :
    Calls Tryd.prog 54 #[.slice ao n c, .int .i64 k] w fun e w' => e = .returned (.int .i64 ((k + 2 * n : Nat) : Int)) ∧ Below w.heap.size w w' := by
  have H := Lib.hid h
  have hml := Lib.hid (marks_length n k)
  clear h
  go_enter Tryd.func54, Tryd.ntmps54
  go_wp2
  go_loopw [1, 5] (fun q i wr => ∃ j : Nat, j ≤ n ∧ i = .int .i64 j ∧ q = .int .i64 ((k + 2 * j : Nat) : Int) ∧ Hid (Below w.heap.size w wr)) (fun _ i _ => n - (intOf i).toNat)
  case atStart => exact ⟨0, Nat.zero_le _, rfl, rfl, Below.refl _ _⟩
  case round =>
    obtain ⟨j, hj, rfl, rfl, hb⟩ := hrel
    by_cases hlt : j < n
    · have hlt' : j < (marks n k).length := by rw [hml.out]; exact hlt
      obtain ⟨b, off, hao, hbl, hc⟩ := H.out (by omega)
      subst hao
      have c0 := (hc j hlt').1
      have c1 := (hc j hlt').2
      rw [marks_at hlt'] at c0 c1
      have d0 := (hb.out.cell (p := ⟨b, off + j * 2, none⟩) hbl).trans c0
      have C1 := Lib.hid c1
      clear hc c0 c1
      have hbw : b < wr.heap.size := Nat.lt_of_lt_of_le hbl hb.out.size
      obtain ⟨m1, hm1⟩ : ∃ m, m = mk (k + 2 * j) := ⟨_, rfl⟩
      obtain ⟨m2, hm2⟩ : ∃ m, m = mk (k + 2 * j + 1) := ⟨_, rfl⟩
      rw [← hm1] at d0
      rw [← hm2] at C1
      have M1 := Lib.hid (fun z hz w => hm1 ▸ mark86i z (k + 2 * j) hz (by omega) w)
      have M2 := Lib.hid (fun z hz w => hm2 ▸ mark86i z (k + 2 * j + 1) hz (by omega) w)
      clear hm1 hm2
      have hss : (m1.toList != m1.toList) = false := by simp
      have hss2 : (m2.toList != m2.toList) = false := by simp
      go_wp2_with fail
      go_region_held3 (fun w' => w'.cell? ⟨b, off + j * 2, none⟩ = some (.string m1)) (assumption) (first | (go_at_call 98; refine (M1.out _ (by omega) _).mono ?_; rintro e w1 ⟨rfl, hb1⟩; have d0' := (hb1.cell (p := ⟨b, off + j * 2, none⟩) hbw).trans d0))
      have HB1 := Lib.hid (hb.out.drew.trans (hb1.mono hb.out.size))
      have d1 := (HB1.out.cell (p := ⟨b, off + j * 2 + 1, none⟩) hbl).trans C1.out
      have hbw1 : b < w1.heap.size := Nat.lt_of_lt_of_le hbl HB1.out.size
      clear hb1 d0' d0
      go_wp2_with fail
      go_region_held3 (fun w' => w'.cell? ⟨b, off + j * 2 + 1, none⟩ = some (.string m2)) (assumption) (first | (go_at_call 98; refine (M2.out _ (by omega) _).mono ?_; rintro e w2 ⟨rfl, hb2⟩; have d1' := (hb2.cell (p := ⟨b, off + j * 2 + 1, none⟩) hbw1).trans d1))
      have HB2 := Lib.hid (HB1.out.drew.trans (hb2.mono HB1.out.size))
      clear hb2 d1 d1'
      go_wp2
      go_roundw
      case rel => exact ⟨j + 1, by omega, by go_num, by go_num, HB2⟩
      case measure => simp [intOf]; omega
    · obtain rfl : j = n := by omega
      go_wp2
      go_ret
      exact ⟨rfl, hb.out⟩
end Go.Proofs.YtpbcgfgjdimpmaaDoor
