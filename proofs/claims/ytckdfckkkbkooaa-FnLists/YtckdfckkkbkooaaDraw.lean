/- Contracts of spoiling a text and of the draws for the laws of chapter 4, over this seat's translation: something short, nothing that was there written. -/
import Derived.Test.YtckdfckkkbkooaaCur
import Derived.Test.YtckdfckkkbkooaaPut
import Derived.Laws.Closers25b
import Derived.Maps.Range
namespace Go.Proofs.Ytckdfckkkbkooaa
open Go.RowKit Go.Deep

theorem conv_one (w : World) (n : Int) : (convert 22 9 (.slice (some ⟨w.heap.size, 0, none⟩) 1 1)).run Try.prog (w.alloc (.cells #[.int .u8 n] 5)) = .ok (.string ⟨#[UInt8.ofNat n.toNat]⟩) (w.alloc (.cells #[.int .u8 n] 5)) := by
  rw [run_convert_bytes_string _ 22 9 5 _ 1 1 Try.underlying22 Try.underlying5 Try.underlying9, run_bytesToString _ _ 1 1 [n] (by simp [go_sem])]
  rfl
def Spoilt (s : ByteArray) (w : World) (B : Nat) (ao : Option Addr) (n cap k j : Nat) (e : Ending) (w' : World) : Prop :=
  ∃ x : ByteArray, x.size ≤ s.size + 2 ∧ e = .returned (.string x) ∧ Drawn w w' B ao n cap k j
def SInv (w : World) (B : Nat) (ao : Option Addr) (n cap K : Nat) (wr : World) : Prop := ∃ k', k' ≤ K ∧ Cur wr B ao n cap k' ∧ w.grownBy wr (some B)

theorem SInv.drewN {w wr : World} {B : Nat} {ao : Option Addr} {n cap K : Nat} (h : SInv w B ao n cap K wr) (q : Nat) : Hid (SInv w B ao n cap K (wr.drewN q)) := by
  obtain ⟨k', hk, hC, hG⟩ := h
  exact Lib.hid ⟨k', hk, hC.kept (grownBy_drewN wr q none) (fun g hg => by cases hg), hG.trans (grownBy_drewN wr q _)⟩
set_option maxHeartbeats 8000000 in
set_option maxRecDepth 100000 in
theorem spoilt55 (s t : ByteArray) (hs : s.size ≤ 190) (ht1 : 1 ≤ t.size) (ht2 : t.size ≤ 190) (w : World) (B : Nat) (ao : Option Addr) (n cap k : Nat) (h : Cur w B ao n cap k) (hn : n ≤ 1048576) (hk : k ≤ 8000000) :
    Calls Try.prog 72 #[.pointer (some ⟨B, 0, none⟩), .string s, .string t] w (Spoilt s w B ao n cap k 7) := by
  have H := Lib.hid h
  clear h
  go_enter Try.func72, Try.ntmps72
  go_wp2_with fail
  refine (pick43 w B ao n cap k 2 H.out hn (by omega) (by decide) (by decide)).mono ?_
  rintro e w1 ⟨r, hr0, hr1, rfl, hD⟩
  obtain ⟨j0, rfl⟩ := Int.eq_ofNat_of_zero_le hr0
  have HI : Hid (SInv w B ao n cap (k + 7 - 3 * (1 + j0)) w1) := by
    obtain ⟨⟨k1, hk1, hC1⟩, hG1⟩ := hD
    exact Lib.hid ⟨k1, by omega, hC1, hG1⟩
  clear hD
  go_wp2_with fail
  go_loopw [1, 7] (fun sv i wr => ∃ (j : Nat) (x : ByteArray), j ≤ 2 ∧ i = .int .i64 j ∧ sv = .string x ∧ x.size + j ≤ s.size + 2 ∧ Hid (SInv w B ao n cap (k + 7 - 3 * j) wr)) (fun _ i _ => (intOf i).toNat)
  case atStart => exact ⟨1 + j0, s, by omega, by simp, rfl, by omega, HI⟩
  case round =>
    obtain ⟨j, x, hj2, rfl, rfl, hx, hI⟩ := hrel
    by_cases hj : j = 0
    · subst hj
      obtain ⟨k', hk', hC, hG⟩ := hI.out
      have HC := Lib.hid hC; have HG := Lib.hid hG
      clear hC hG hI
      go_wp2
      go_ret
      exact ⟨x, by omega, rfl, ⟨k', by omega, HC.out⟩, HG.out⟩
    by_cases hx0 : 0 < x.size
    case neg =>
      obtain ⟨k', hk', hC, hG⟩ := hI.out
      have HC := Lib.hid hC; have HG := Lib.hid hG
      clear hC hG hI
      go_wp2
      go_ret
      exact ⟨x, by omega, rfl, ⟨k', by omega, HC.out⟩, HG.out⟩
    obtain ⟨i, rfl⟩ : ∃ i, j = i + 1 := ⟨j - 1, by omega⟩
    obtain ⟨k', hk', hC, hG⟩ := hI.out
    have HC := Lib.hid hC; have HG := Lib.hid hG
    clear hC hG hI
    go_wp2_with fail
    refine (pick43 _ B ao n cap k' x.size HC.out hn (by omega) (by omega) (by omega)).mono ?_
    rintro e w2 ⟨r2, hr20, hr21, rfl, ⟨k2, hk2, hC2⟩, hg2⟩
    obtain ⟨a, rfl⟩ := Int.eq_ofNat_of_zero_le hr20
    have ha : a < x.size := by omega
    have HC2 := Lib.hid hC2; have HG2 := Lib.hid (HG.out.trans hg2)
    clear hC2 hg2
    go_wp2_with fail
    refine (pick43 _ B ao n cap k2 t.size HC2.out hn (by omega) (by omega) (by omega)).mono ?_
    rintro e w3 ⟨r3, hr30, hr31, rfl, ⟨k3, hk3, hC3⟩, hg3⟩
    obtain ⟨b, rfl⟩ := Int.eq_ofNat_of_zero_le hr30
    have hb : b < t.size := by omega
    have HC3 := Lib.hid (hC3.alloc (.cells #[.int .u8 ((t[b]'hb).toNat : Int)] 5)); have HG3 := Lib.hid ((HG2.out.trans hg3).trans (World.grownBy_alloc _ (.cells #[.int .u8 ((t[b]'hb).toNat : Int)] 5) _))
    have hcv := conv_one w3 ((t[b]'hb).toNat : Int)
    clear hC3 hg3
    go_wp2_with fail
    refine (pick43 _ B ao n cap k3 3 HC3.out hn (by omega) (by omega) (by omega)).mono ?_
    rintro e w4 ⟨r4, hr40, hr41, rfl, ⟨k4, hk4, hC4⟩, hg4⟩
    have HI4 : Hid (SInv w B ao n cap (k + 7 - 3 * i) w4) := Lib.hid ⟨k4, by omega, hC4, HG3.out.trans hg4⟩
    clear hC4 hg4 hcv HC3 HG3
    obtain ⟨y, hy⟩ : ∃ y : ByteArray, y = ⟨#[t[b]'hb]⟩ := ⟨_, rfl⟩
    have hys : y.size = 1 := by rw [hy]; rfl
    rw [← hy]
    clear hy
    by_cases e0 : r4 = 0
    · subst e0
      go_wp2_with fail
      go_quiet (fail)
      go_wp2
      go_roundw
      case rel => exact ⟨i, _, by omega, by go_num, rfl, by simp only [ByteArray.size_append, ByteArray.size_extract]; omega, HI4.out.drewN nq⟩
      case measure => simp [intOf]
    have q0 : (r4 == 0) = false := beq_eq_false_iff_ne.2 e0
    by_cases e1 : r4 = 1
    · subst e1
      go_wp2_with fail
      go_quiet (fail)
      go_wp2
      go_roundw
      case rel => exact ⟨i, _, by omega, by go_num, rfl, by simp only [ByteArray.size_append, ByteArray.size_extract]; omega, HI4.out.drewN nq⟩
      case measure => simp [intOf]
    have q1 : (r4 == 1) = false := beq_eq_false_iff_ne.2 e1
    go_wp2_with fail
    go_quiet (fail)
    go_wp2
    go_roundw
    case rel => exact ⟨i, _, by omega, by go_num, rfl, by simp only [ByteArray.size_append, ByteArray.size_extract]; omega, HI4.out.drewN nq⟩
    case measure => simp [intOf]

theorem BRow.below {w w' : World} {ao : Option Addr} {n : Nat} (h : BRow w w.heap.size ao n) (hb : Below w.heap.size w w') : BRow w' w'.heap.size ao n := fun hp => by
  obtain ⟨b, off, e, hl, hc⟩ := h hp
  refine ⟨b, off, e, Nat.lt_of_lt_of_le hl hb.size, fun i hi => ?_⟩
  obtain ⟨z, z0, z1, z2⟩ := hc i hi
  exact ⟨z, z0, z1, (hb.cell (p := ⟨b, off + i, none⟩) hl).trans z2⟩
theorem fresh_texts (w : World) (l : List ByteArray) (t : TypeId) : ∀ i (hi : i < l.length), (w.alloc (.cells (l.map Value.string).toArray t)).cell? ⟨w.heap.size, i, none⟩ = some (.string l[i]) := by
  intro i hi
  have e := blk_alloc_new w (.cells (l.map Value.string).toArray t)
  simp only [World.cell?, e]
  simp [hi]

theorem Drawn.alloc {w w' : World} {B : Nat} {ao : Option Addr} {n cap k j : Nat} (h : Drawn w w' B ao n cap k j) (o : Obj) : Drawn w (w'.alloc o) B ao n cap k j := by
  obtain ⟨⟨k', hk, hC⟩, hg⟩ := h
  exact ⟨⟨k', hk, hC.alloc o⟩, hg.trans (World.grownBy_alloc _ _ _)⟩
theorem Drawn.stored {w w' : World} {B : Nat} {ao : Option Addr} {n cap k j g : Nat} (h : Drawn w w' B ao n cap k j) (hB : B < w.heap.size) (hg : w.heap.size ≤ g) (i : Nat) (u : Value) : Drawn w (w'.setCell ⟨g, i, none⟩ u) B ao n cap k j := by
  obtain ⟨⟨k', hk, hC⟩, hG⟩ := h
  have hs := grownBy_setCell w' g i u
  exact ⟨⟨k', hk, hC.kept hs (fun q hq => by injection hq with hq; omega)⟩, hG.andThen hs (fun q hq => by injection hq with hq; subst hq; exact .inl hg)⟩
theorem cur_new (w : World) (ao : Option Addr) (n cap : Nat) (h : BRow w w.heap.size ao n) : Cur (w.alloc (.cells #[.slice ao n cap, .int .i64 0, .int .u64 0] 81)) w.heap.size ao n cap 0 :=
  ⟨⟨0, by decide, by decide, blk_alloc_new _ _⟩, h.other (World.grownBy_alloc _ _ _)⟩
/-- What wrote into a new cursor alone wrote nothing that was there. -/
theorem below_cur {w w' : World} {o : Obj} (hg : (w.alloc o).grownBy w' (some w.heap.size)) : Below w.heap.size w w' :=
  ((Below.refl _ w).alloc (Nat.le_refl _) o).grown hg (by simp) (fun k hk => by injection hk with hk; omega)

theorem fresh_texts1 (w : World) (o : Obj) (l : List ByteArray) (t : TypeId) : ∀ i (hi : i < l.length), ((w.alloc o).alloc (.cells (l.map Value.string).toArray t)).cell? ⟨w.heap.size + 1, i, none⟩ = some (.string l[i]) := by
  intro i hi
  have := fresh_texts (w.alloc o) l t i hi
  rwa [show (w.alloc o).heap.size = w.heap.size + 1 by simp] at this

/-- Some number of 64 bits was drawn. -/
def Numbered (w : World) (B : Nat) (ao : Option Addr) (n cap k j : Nat) (e : Ending) (w' : World) : Prop :=
  ∃ x : Nat, x < 18446744073709551616 ∧ e = .returned (.int .u64 x) ∧ Drawn w w' B ao n cap k j
theorem bits_u64_nat (op : BinOp) (a b : Int) : ∃ x : Nat, x < 18446744073709551616 ∧ bits op .u64 a b = (x : Int) := by
  have h := bits_within op .u64 a b
  have h1 : IntKind.u64.min = 0 := by decide
  have h2 : IntKind.u64.max = 18446744073709551615 := by decide
  rw [h1, h2] at h
  exact ⟨(bits op .u64 a b).toNat, by omega, by omega⟩
theorem fresh_edges (w : World) (t : TypeId) {i : Nat} (hi : i < 8) : ∃ x : Nat, x < 18446744073709551616 ∧ (w.alloc (.cells #[.int .u64 0, .int .u64 127, .int .u64 128, .int .u64 16383, .int .u64 16384, .int .u64 9223372036854775807, .int .u64 9223372036854775808, .int .u64 18446744073709551615] t)).cell? ⟨w.heap.size, i, none⟩ = some (.int .u64 x) := by
  have e := blk_alloc_new w (.cells #[.int .u64 0, .int .u64 127, .int .u64 128, .int .u64 16383, .int .u64 16384, .int .u64 9223372036854775807, .int .u64 9223372036854775808, .int .u64 18446744073709551615] t)
  simp only [World.cell?, e]
  match i, hi with
  | 0, _ => exact ⟨0, by decide, rfl⟩
  | 1, _ => exact ⟨127, by decide, rfl⟩
  | 2, _ => exact ⟨128, by decide, rfl⟩
  | 3, _ => exact ⟨16383, by decide, rfl⟩
  | 4, _ => exact ⟨16384, by decide, rfl⟩
  | 5, _ => exact ⟨9223372036854775807, by decide, rfl⟩
  | 6, _ => exact ⟨9223372036854775808, by decide, rfl⟩
  | 7, _ => exact ⟨18446744073709551615, by decide, rfl⟩

set_option maxHeartbeats 2000000 in
set_option maxRecDepth 100000 in
theorem u64_37 (w : World) (B : Nat) (ao : Option Addr) (n cap k : Nat) (h : Cur w B ao n cap k) (hn : n ≤ 1048576) (hk : k ≤ 8000000) :
    Calls Try.prog 94 #[.pointer (some ⟨B, 0, none⟩)] w (Numbered w B ao n cap k 11) := by
  have H := Lib.hid h
  clear h
  go_enter Try.func94, Try.ntmps94
  go_wp2_with fail
  refine (pick43 w B ao n cap k 9 H.out hn (by omega) (by decide) (by decide)).mono ?_
  rintro e w1 ⟨r, hr0, hr1, rfl, hD⟩
  obtain ⟨j0, rfl⟩ := Int.eq_ofNat_of_zero_le hr0
  have HI : Hid (SInv w B ao n cap (k + 9 - j0) w1) := by
    obtain ⟨⟨k1, hk1, hC1⟩, hG1⟩ := hD
    exact Lib.hid ⟨k1, by omega, hC1, hG1⟩
  clear hD
  go_wp2_with fail
  go_loopw [3, 4] (fun q i wr => ∃ (j x : Nat), j ≤ 8 ∧ i = .int .i64 j ∧ x < 18446744073709551616 ∧ q = .int .u64 x ∧ Hid (SInv w B ao n cap (k + 9 - j) wr)) (fun _ i _ => (intOf i).toNat)
  case atStart => exact ⟨j0, 0, by omega, rfl, by decide, rfl, HI⟩
  case round =>
    obtain ⟨j, x, hj, rfl, hx, rfl, hI⟩ := hrel
    obtain ⟨k', hk', hC, hG⟩ := hI.out
    have HC := Lib.hid hC; have HG := Lib.hid hG; have HX := Lib.hid hx
    clear hC hG hI hx
    by_cases hj0 : j = 0
    · subst hj0
      go_wp2_with fail
      refine (one42 _ B ao n cap k' 4 HC.out hn (by omega) (by decide) (by decide)).mono ?_
      rintro e w2 ⟨b, rfl, ⟨k2, hk2, hC2⟩, hg2⟩
      have HC2 := Lib.hid hC2; have HG2 := Lib.hid (HG.out.trans hg2)
      clear hC2 hg2
      cases b with
      | false =>
        go_wp2
        go_ret
        exact ⟨x, HX.out, rfl, ⟨k2, by omega, HC2.out⟩, HG2.out⟩
      | true =>
        go_wp2_with fail
        refine (pick43 _ B ao n cap k2 8 (HC2.out.alloc _) hn (by omega) (by decide) (by decide)).mono ?_
        rintro e w3 ⟨r, hr0, hr1, rfl, ⟨k3, hk3, hC3⟩, hg3⟩
        obtain ⟨i, rfl⟩ := Int.eq_ofNat_of_zero_le hr0
        have hi : i < 8 := by omega
        obtain ⟨y, hy, hcy⟩ := fresh_edges w2 79 hi
        have hlt := HC2.out.lt
        have c0 := hg3.cell hcy (by simp; omega)
        have HG3 := Lib.hid ((HG2.out.trans (World.grownBy_alloc _ _ _)).trans hg3)
        have HC3 := Lib.hid hC3
        have HY := Lib.hid hy
        clear hC3 hg3 hcy hy
        go_wp2
        go_ret
        exact ⟨y, HY.out, rfl, ⟨k3, by omega, HC3.out⟩, HG3.out⟩
    · obtain ⟨j, rfl⟩ : ∃ i, j = i + 1 := ⟨j - 1, by omega⟩
      go_wp2_with fail
      refine (next57 _ B ao n cap k' HC.out hn (by omega)).mono ?_
      rintro e w2 ⟨r, hr0, hr1, rfl, hC2, hg2⟩
      have HI2 : Hid (SInv w B ao n cap (k + 9 - j) w2) := Lib.hid ⟨k' + 1, by omega, hC2, HG.out.trans hg2⟩
      clear hC2 hg2
      obtain ⟨y, hy, he⟩ := bits_u64_nat .or (IntKind.u64.wrap ((x : Int) * 256)) r
      have HY := Lib.hid hy
      clear hy
      go_wp2
      go_roundw
      case rel => exact ⟨j, y, by omega, by go_num, HY.out, by go_num, HI2⟩
      case measure => simp [intOf]

def DrawnN (w : World) (e : Ending) (w' : World) : Prop := ∃ x : Nat, x < 18446744073709551616 ∧ e = .returned (.int .u64 x) ∧ Below w.heap.size w w'
theorem wrap64_in (n : Int) : In64 (RowKit.wrap64 n) := by unfold In64 RowKit.wrap64; omega
def DrawnI (w : World) (e : Ending) (w' : World) : Prop := ∃ z : Int, In64 z ∧ e = .returned (.int .i64 z) ∧ Below w.heap.size w w'
def DrawnSI (w : World) (e : Ending) (w' : World) : Prop := ∃ (s : ByteArray) (z : Int), s.size ≤ 60 ∧ -1 ≤ z ∧ z ≤ 1 ∧ e = .returned (.tuple #[.string s, .int .i64 z]) ∧ Below w.heap.size w w'
end Go.Proofs.Ytckdfckkkbkooaa
