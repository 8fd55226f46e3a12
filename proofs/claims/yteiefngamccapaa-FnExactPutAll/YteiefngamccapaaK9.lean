/- Contract of PutList in the program, over this seat's translation: the same bytes as the model's. -/
import Derived.Test.YteiefngamccapaaK7
import Derived.Test.YteiefngamccapaaShelf
import Derived.RangeFuncBox
import Derived.Test.YteiefngamccapaaK3
import Derived.Test.YteiefngamccapaaK4
import Derived.Test.YteiefngamccapaaK5
import Derived.RangeFuncNested
import Derived.RangeFuncBound
import Derived.RangeFuncCalls
import Derived.RangeFuncLeaves
import Derived.Shelf.Abstract
import Derived.Shelf.RegionOpen
import Derived.WalkKit
import Derived.OwnWalkIn
import Derived.TacticsInMore
import Derived.LoopNIn
import Derived.LoopIn
namespace Go.Proofs.Yteiefngamccapaa
open Go.RowKit Go.Deep

/-- A slice of n numbers f, in a block of its own from B on. -/
def Row (w : World) (bo : Option Addr) (n c : Nat) (f : Nat → Int) (B : Nat) : Prop := n ≤ c ∧ (0 < n → ∃ g t N, bo = some ⟨g, 0, none⟩ ∧ B ≤ g ∧ RF w g t N n f)
theorem Row.congr {w : World} {bo : Option Addr} {n c : Nat} {f f' : Nat → Int} {B : Nat} (h : Row w bo n c f B) (he : ∀ i, i < n → f i = f' i) : Row w bo n c f' B :=
  ⟨h.1, fun hp => by obtain ⟨g, t, N, e, hB, hr⟩ := h.2 hp; exact ⟨g, t, N, e, hB, hr.congr he⟩⟩
theorem Row.below {w w' : World} {bo : Option Addr} {n c : Nat} {f : Nat → Int} {B : Nat} (h : Row w bo n c f B) (hb : Below w.heap.size w w') : Row w' bo n c f B :=
  ⟨h.1, fun hp => by obtain ⟨g, t, N, e, hB, hr⟩ := h.2 hp; exact ⟨g, t, N, e, hB, hr.below hb⟩⟩
theorem Row.of_own {w : World} {B : Nat} {v : Value} {l : List Int} (h : w.ownsRow B 3 1 v l.length (l.map (Value.int .i64))) : ∃ bo c, v = .slice bo l.length c ∧ Row w bo l.length c (at0 l) B := by
  obtain ⟨_, ⟨rfl, hn⟩ | ⟨g, cap, cur, rfl, hge, hh, hle, _, hsz, htk⟩⟩ := h
  · exact ⟨none, 0, by rw [hn], by omega, fun hp => by omega⟩
  · refine ⟨_, cap, rfl, hle, fun hp => ⟨g, 3, cap, rfl, hge, hle, fun i => cur.getD i undef, fun i hi => ?_, ?_⟩⟩
    · have e : cur.toList[i]? = some (.int .i64 l[i]) := by
        have h2 : (cur.toList.take (l.length * 1))[i]? = cur.toList[i]? := by rw [List.getElem?_take, if_pos (by omega)]
        rw [← h2, htk]
        simp [hi]
      have e' : cur[i]? = some (.int .i64 l[i]) := by simpa using e
      rw [at0_get hi]
      simp [Array.getD_eq_getD_getElem?, e']
    · have hc : cur.size = cap := by omega
      subst hc
      exact ⟨cur, hh, rfl, fun i hi => by simp [Array.getD_eq_getD_getElem?, hi]⟩

def Tail (bo : Option Addr) (n c : Nat) (v : Value) : Prop := (n ≤ 1 ∧ ∃ bo' d, v = .slice bo' 0 d) ∨ (2 ≤ n ∧ ∃ g, bo = some ⟨g, 0, none⟩ ∧ v = .slice (some ⟨g, 1, none⟩) (n - 1) (c - 1))
theorem SetB.sub {B : Nat} {w w' : World} (h : SetB B w w') : Below B w w' := h.1

theorem stepsAll48 (bo : Option Addr) (n c B : Nat) (f : Nat → Int) (hn : n ≤ 60) (w : World) (h : Row w bo n c f B) :
    Calls Try.prog 122 #[.slice bo n c] w fun e w' => (∃ r, e = .returned r) ∧ Row w' bo n c (difF f 0 n 0) B ∧ Below B w w' := by
  by_cases h2 : n ≤ 1
  · refine (steps_small bo n c h2 w).mono ?_
    rintro e w' ⟨hr, rfl⟩
    exact ⟨hr, h.congr fun i hi => by unfold difF; rw [if_neg (by omega)], Below.refl _ _⟩
  · obtain ⟨hc, hr⟩ := h
    obtain ⟨g, t, N, rfl, hB, hR⟩ := hr (by omega)
    refine (steps48 g 0 n c N n B t f (by omega) hn (by omega) hB w hR).mono ?_
    rintro e w' ⟨hr, hR', hS⟩
    exact ⟨hr, ⟨hc, fun _ => ⟨g, t, N, rfl, hB, hR'⟩⟩, hS.1⟩
theorem behindAll49 (bo : Option Addr) (n c B : Nat) (f : Nat → Int) (w : World) (h : Row w bo n c f B) :
    Calls Try.prog 123 #[.slice bo n c] w fun e w' => (∃ v, e = .returned v ∧ Tail bo n c v) ∧ w' = w := by
  obtain ⟨hc, hr⟩ := h
  by_cases h2 : n ≤ 1
  · refine (behind_small bo n c h2 hc (fun hp => by obtain ⟨g, _, _, e, _⟩ := hr hp; exact ⟨_, e⟩) w).mono ?_
    rintro e w' ⟨⟨bo', d, rfl⟩, rfl⟩
    exact ⟨⟨_, rfl, .inl ⟨h2, _, _, rfl⟩⟩, rfl⟩
  · obtain ⟨g, t, N, rfl, hB, hR⟩ := hr (by omega)
    refine (behind49 g n c (by omega) hc w).mono ?_
    rintro e w' ⟨rfl, rfl⟩
    exact ⟨⟨_, rfl, .inr ⟨by omega, g, rfl, rfl⟩⟩, rfl⟩
theorem tail48 (bo : Option Addr) (n c B : Nat) (f : Nat → Int) (v : Value) (hn : n ≤ 60) (w : World) (h : Row w bo n c f B) (ht : Tail bo n c v) :
    Calls Try.prog 122 #[v] w fun e w' => (∃ r, e = .returned r) ∧ Row w' bo n c (difF f 1 (n - 1) 0) B ∧ Below B w w' := by
  rcases ht with ⟨h1, bo', d, rfl⟩ | ⟨h2, g', rfl, rfl⟩
  · refine (steps_small bo' 0 d (by omega) w).mono ?_
    rintro e w' ⟨hr, rfl⟩
    exact ⟨hr, h.congr fun i hi => by unfold difF; rw [if_neg (by omega)], Below.refl _ _⟩
  · obtain ⟨hc, hr⟩ := h
    obtain ⟨g, t, N, e, hB, hR⟩ := hr (by omega)
    injection e with e
    injection e with e
    subst e
    by_cases h3 : n = 2
    · subst h3
      refine (steps_small _ 1 _ (by omega) w).mono ?_
      rintro e w' ⟨hr', rfl⟩
      exact ⟨hr', ⟨hc, fun _ => ⟨g', t, N, rfl, hB, hR.congr fun i hi => by unfold difF; rw [if_neg (by omega)]⟩⟩, Below.refl _ _⟩
    · refine (steps48 g' 1 (n - 1) _ N n B t f (by omega) (by omega) (by omega) hB w hR).mono ?_
      rintro e w' ⟨hr', hR', hS⟩
      exact ⟨hr', ⟨hc, fun _ => ⟨g', t, N, rfl, hB, hR'⟩⟩, hS.1⟩
theorem fromAll54 (bo : Option Addr) (n c B : Nat) (f : Nat → Int) (hn : n ≤ 60) (w : World) (h : Row w bo n c f B) :
    Calls Try.prog 129 #[.slice bo n c] w fun e w' => (∃ r, e = .returned r) ∧ Row w' bo n c (sumF f 0 n) B ∧ Below B w w' := by
  by_cases h2 : n ≤ 1
  · refine (from_small bo n c h2 w).mono ?_
    rintro e w' ⟨hr, rfl⟩
    exact ⟨hr, h.congr fun i hi => by
      obtain rfl : i = 0 := by omega
      unfold sumF; rw [if_pos ⟨by omega, by omega⟩, Nat.sub_self, accF], Below.refl _ _⟩
  · obtain ⟨hc, hr⟩ := h
    obtain ⟨g, t, N, rfl, hB, hR⟩ := hr (by omega)
    refine (from54 g 0 n c N n B t f (by omega) hn (by omega) hB w hR).mono ?_
    rintro e w' ⟨hr, hR', hS⟩
    exact ⟨hr, ⟨hc, fun _ => ⟨g, t, N, rfl, hB, hR'⟩⟩, hS.1⟩
theorem tail54 (bo : Option Addr) (n c B : Nat) (f : Nat → Int) (v : Value) (hn : n ≤ 60) (w : World) (h : Row w bo n c f B) (ht : Tail bo n c v) :
    Calls Try.prog 129 #[v] w fun e w' => (∃ r, e = .returned r) ∧ Row w' bo n c (sumF f 1 (n - 1)) B ∧ Below B w w' := by
  rcases ht with ⟨h1, bo', d, rfl⟩ | ⟨h2, g', rfl, rfl⟩
  · refine (from_small bo' 0 d (by omega) w).mono ?_
    rintro e w' ⟨hr, rfl⟩
    exact ⟨hr, h.congr fun i hi => by unfold sumF; rw [if_neg (by omega)], Below.refl _ _⟩
  · obtain ⟨hc, hr⟩ := h
    obtain ⟨g, t, N, e, hB, hR⟩ := hr (by omega)
    injection e with e
    injection e with e
    subst e
    by_cases h3 : n = 2
    · subst h3
      refine (from_small _ 1 _ (by omega) w).mono ?_
      rintro e w' ⟨hr', rfl⟩
      exact ⟨hr', ⟨hc, fun _ => ⟨g', t, N, rfl, hB, hR.congr fun i hi => by
        unfold sumF
        by_cases e : 1 ≤ i ∧ i < 1 + (2 - 1)
        · rw [if_pos e]
          obtain rfl : i = 1 := by omega
          rw [Nat.sub_self, accF]
        · rw [if_neg e]⟩⟩, Below.refl _ _⟩
    · refine (from54 g' 1 (n - 1) _ N n B t f (by omega) (by omega) (by omega) hB w hR).mono ?_
      rintro e w' ⟨hr', hR', hS⟩
      exact ⟨hr', ⟨hc, fun _ => ⟨g', t, N, rfl, hB, hR'⟩⟩, hS.1⟩

theorem clone47 (ao : Option Addr) (c : Nat) (l : List Int) (hn : l.length ≤ 1048576) (w : World) (h : IRow w w.heap.size ao l) :
    Calls Try.prog 121 #[.slice ao l.length c] w fun e w' => (∃ v, e = .returned v ∧ w'.ownsRow w.heap.size 3 1 v l.length (l.map (Value.int .i64))) ∧ Below w.heap.size w w' := by
  cases ao with
  | none =>
    have h0 : l.length = 0 := by
      rcases Nat.eq_zero_or_pos l.length with h0 | h0
      · exact h0
      · obtain ⟨_, _, e, _⟩ := h.2 h0; cases e
    have hl : l = [] := List.eq_nil_of_length_eq_zero h0
    subst hl
    refine (Try.slices_Clone_int_nil 0 c w).mono ?_
    rintro e w' ⟨rfl, rfl⟩
    exact ⟨⟨_, rfl, World.ownsRow_nil _ _ _ _⟩, Below.refl _ _⟩
  | some a =>
    by_cases h0 : l.length = 0
    · have hl : l = [] := List.eq_nil_of_length_eq_zero h0
      subst hl
      refine (Try.slices_Clone_int_zero a c w).mono ?_
      rintro e w' ⟨v, rfl, ho, _, hb⟩
      exact ⟨⟨v, rfl, ho⟩, hb⟩
    · obtain ⟨b, off, e, hb, hc⟩ := h.2 (by omega)
      injection e with e
      subst e
      refine (Try.slices_Clone_int b off l.length c l w (Nat.le_refl _) (by omega) (fun j hj => by rw [hc j hj]; simp [List.getD, hj])).mono ?_
      rintro e w' ⟨v, rfl, ho, _, hb⟩
      rw [List.take_length] at ho
      exact ⟨⟨v, rfl, ho⟩, hb⟩

theorem dif_dd (l : List Int) (i : Nat) (hi : i < l.length) : difF (difF (at0 l) 0 l.length 0) 1 (l.length - 1) 0 i = dd (at0 l) i := by
  by_cases h0 : i = 0
  · subst h0
    rw [dd_zero]
    unfold difF
    rw [if_neg (by omega), if_neg (by omega)]
  · unfold dd ss
    rw [if_neg h0]
    by_cases h1 : i ≤ 1
    · obtain rfl : i = 1 := by omega
      rw [if_pos (by omega)]
      unfold difF
      rw [if_neg (by omega), if_pos ⟨by omega, by omega⟩, ← w64_eq, Int.sub_zero]
      exact (w64_id (w64_in _)).symm
    · rw [if_neg h1]
      have e1 : difF (at0 l) 0 l.length 0 i = w64 (at0 l i - at0 l (i - 1)) := by unfold difF; rw [if_pos ⟨by omega, by omega⟩, w64_eq]
      have e2 : difF (at0 l) 0 l.length 0 (i - 1) = w64 (at0 l (i - 1) - at0 l (i - 2)) := by unfold difF; rw [if_pos ⟨by omega, by omega⟩, w64_eq]; rfl
      generalize difF (at0 l) 0 l.length 0 = d at e1 e2
      unfold difF
      rw [if_pos ⟨by omega, by omega⟩, e1, e2, ← w64_eq]

theorem bld_below {B b : Nat} {p : Value} {bs : List Value} {w w' : World} (h : Lib.BuilderAt 134 5 B b p bs w) (hb : Below w.heap.size w w') : Lib.BuilderAt 134 5 B b p bs w' := by
  have hl := h.lt
  obtain ⟨hB, v, hk, ho, hne⟩ := h
  exact ⟨hB, v, by rw [hb.block b hl]; exact hk, own_below ho hb, hne⟩
theorem isb_below {B b : Nat} {bs : List Value} {w w' : World} (h : Lib.IsBuilder 134 5 B b bs w) (hb : Below w.heap.size w w') : Lib.IsBuilder 134 5 B b bs w' := by
  rcases h with h | h
  · exact .inl (bld_below h hb)
  · exact .inr (bld_below h hb)
theorem start_bytes (l : List Int) : [] ++ Lib.strCells (txtV l.length) = Lib.byteCells (encK l 0) := by rw [List.nil_append, encK_zero]; rfl
theorem next_bytes {l : List Int} {k n : Nat} (h : encK l (k + 1) = encK l k ++ putV n) : Lib.byteCells (encK l k) ++ Lib.strCells (txtV n) = Lib.byteCells (encK l (k + 1)) := by rw [h, Lib.byteCells_append]; rfl
theorem below_mono {B C : Nat} {w w' : World} (h : Below C w w') (hBC : B ≤ C) : Below B w w' := h.mono hBC
/-- What the loop keeps: the bytes told so far. -/
def BInv (w : World) (b : Nat) (l : List Int) (k : Nat) (wr : World) : Prop := Lib.BuilderAt 134 5 b b (.pointer (some ⟨b, 0, none⟩)) (Lib.byteCells (encK l k)) wr ∧ Below b w wr

set_option maxHeartbeats 4000000 in
set_option maxRecDepth 100000 in
theorem putl27 (ao : Option Addr) (cap : Nat) (l : List Int) (hn : l.length ≤ 1048576) (w : World) (h : IRow w w.heap.size ao l) :
    Calls Try.prog 105 #[.slice ao l.length cap] w fun e w' => e = .returned (.tuple #[.string (putF l), .bool (fitsL l)]) ∧ Below w.heap.size w w' := by
  have H := Lib.hid h
  clear h
  by_cases h60 : l.length ≤ 60
  case neg =>
    have hf : fitsL l = false := by unfold fitsL; simp; omega
    have HF := Lib.hid hf
    have HP := Lib.hid (putF_no hf)
    clear hf
    go_enter Try.func105, Try.ntmps105
    go_wp2
    go_ret2
    exact ⟨ret_strb HP.out.symm HF.out.symm, Below.refl _ _⟩
  go_enter Try.func105, Try.ntmps105
  go_wp2_with fail
  refine (clone47 ao cap l hn _ H.out).mono ?_
  rintro e w1 ⟨⟨v, rfl, ho⟩, hb1⟩
  obtain ⟨bo, c, rfl, hR⟩ := Row.of_own ho
  have HR := Lib.hid hR; have HB1 := Lib.hid hb1
  clear ho hR hb1
  go_wp2_with fail
  refine (stepsAll48 bo l.length c _ _ h60 _ HR.out).mono ?_
  rintro e w2 ⟨⟨r2, rfl⟩, hR2, hb2⟩
  have HR2 := Lib.hid hR2; have HB2 := Lib.hid (HB1.out.trans hb2)
  clear hR2 hb2
  go_wp2_with fail
  refine (behindAll49 bo l.length c _ _ _ HR2.out).mono ?_
  rintro e w3 ⟨⟨v3, rfl, ht⟩, rfl⟩
  have HT := Lib.hid ht
  clear ht
  go_wp2_with fail
  refine (tail48 bo l.length c _ _ v3 h60 _ HR2.out HT.out).mono ?_
  rintro e w4 ⟨⟨r4, rfl⟩, hR4, hb4⟩
  have HR4 := Lib.hid (hR4.congr fun i hi => dif_dd l i hi); have HB4 := Lib.hid (HB2.out.trans hb4)
  clear hR4 hb4 HT
  have HIn := Lib.hid (fun i => dd_in (at0_in H.out.1 0) i)
  have HLen := Lib.hid (fun k => encK_len H.out.1 hn k)
  have HSucc := Lib.hid (fun k (hk : k < l.length) => encK_succ (l := l) hk)
  have HF0 := Lib.hid (Lib.fresh_isBuilder 134 5 w4)
  have HBa := Lib.hid ((Below.refl w4.heap.size w4).alloc (Nat.le_refl _) (.cells #[.pointer none, .slice none 0 0] 134))
  clear HR HR2 HB1 HB2 H
  go_wp2_with fail
  refine (put14 l.length (by omega) _).mono ?_
  rintro e w5 ⟨rfl, hb5⟩
  have HF5 := Lib.hid (isb_below HF0.out hb5)
  have HB5 := Lib.hid (HBa.out.trans (hb5.mono HBa.out.size))
  have hz := putV_ten (n := l.length) (by omega)
  rw [← txtV_size] at hz
  have HS0 := Lib.hid (start_bytes l)
  clear hb5 HF0 HBa
  go_wp2_with fail
  refine (write50 w4.heap.size w4.heap.size [] (txtV l.length) _ HF5.out (by simp only [List.length_nil]; omega) HB5.out.size).mono ?_
  rintro e w6 ⟨⟨r6, rfl⟩, hA6, hb6⟩
  rw [HS0.out] at hA6
  have HI : Hid (BInv w4 w4.heap.size l 0 w6) := Lib.hid ⟨hA6, HB5.out.trans hb6⟩
  clear hA6 hb6 HF5 HB5 HS0 hz
  go_wp2_with fail
  go_loopw [25] (fun i wr => ∃ k : Nat, k ≤ l.length ∧ i = .int .i64 k ∧ Hid (BInv w4 w4.heap.size l k wr)) (fun i _ => l.length - (intOf i).toNat)
  case atStart => exact ⟨0, Nat.zero_le _, rfl, HI⟩
  case round =>
    obtain ⟨k, hk, rfl, hI⟩ := hrel
    by_cases hlt : k < l.length
    · obtain ⟨g, t, N, hbo, _, hR⟩ := HR4.out.2 (by omega)
      subst hbo
      have c0 := (hI.out.2.cell (p := ⟨g, k, none⟩) hR.lt).trans (hR.cell hlt)
      have hlen := HLen.out k
      have HE := Lib.hid (next_bytes (HSucc.out k hlt))
      have HD := Lib.hid (HIn.out k)
      clear hR
      generalize dd (at0 l) k = x at c0 HE HD
      go_wp2_with fail
      refine (zig18 x HD.out _).mono ?_
      rintro e w7 ⟨rfl, rfl⟩
      go_wp2_with fail
      refine (put14 (zigN x) (zig_lt HD.out) _).mono ?_
      rintro e w8 ⟨rfl, hb8⟩
      have hz := putV_ten (zig_lt HD.out)
      rw [← txtV_size] at hz
      have HA8 := Lib.hid (bld_below hI.out.1 hb8)
      have HB8 := Lib.hid (hI.out.2.trans (hb8.mono hI.out.2.size))
      clear hb8
      go_wp2_with fail
      refine (write50 w4.heap.size w4.heap.size (Lib.byteCells (encK l k)) (txtV (zigN x)) _ (.inr HA8.out) (by rw [Lib.byteCells_length]; omega) HB8.out.size).mono ?_
      rintro e w9 ⟨⟨r9, rfl⟩, hA9, hb9⟩
      rw [HE.out] at hA9
      have HI9 : Hid (BInv w4 w4.heap.size l (k + 1) w9) := Lib.hid ⟨hA9, HB8.out.trans hb9⟩
      clear hA9 hb9 HA8 HB8
      go_wp2
      go_roundw
      case rel => exact ⟨k + 1, by omega, by go_num, HI9⟩
      case measure => simp [intOf]; omega
    · obtain rfl : k = l.length := by omega
      obtain ⟨hA, hb⟩ := hI.out
      rw [encK_all] at hA
      have HA := Lib.hid hA
      have HB := Lib.hid (HB4.out.trans (hb.mono HB4.out.size))
      have hsz := hb.size
      have hL := Lib.hid (show (Lib.byteCells (enc l)).length = (strE l).size by rw [Lib.byteCells_length]; simp [strE, ByteArray.size])
      clear hA hb hI
      go_wp2_with fail
      refine (Try.Builder_Len w4.heap.size w4.heap.size _ _ (.inr HA.out)).mono ?_
      rintro e w7 ⟨rfl, rfl⟩
      rw [hL.out]
      by_cases h400 : (strE l).size ≤ 400
      · have hf : fitsL l = true := by unfold fitsL; simp; omega
        have HF := Lib.hid hf
        have HP := Lib.hid (putF_yes hf)
        clear hf
        have HC := Lib.hid (Try.Builder_String_any w4.heap.size w4.heap.size (enc l) _ (.inr HA.out) hsz)
        have he : (⟨(enc l).toArray⟩ : ByteArray) = strE l := rfl
        rw [he] at HC
        clear he HA hL
        generalize strE l = t at h400 HP HC
        go_wp2_with fail
        refine HC.out.mono ?_
        rintro e w8 ⟨rfl, hb8⟩
        have HB8 := Lib.hid (HB.out.trans (hb8.mono HB4.out.size))
        clear hb8
        go_wp2
        go_ret2
        exact ⟨ret_strb HP.out.symm HF.out.symm, HB8.out⟩
      · have hf : fitsL l = false := by unfold fitsL; simp; omega
        have HF := Lib.hid hf
        have HP := Lib.hid (putF_no hf)
        clear hf hL
        generalize strE l = t at h400
        go_wp2
        go_ret2
        exact ⟨ret_strb HP.out.symm HF.out.symm, HB.out⟩
end Go.Proofs.Yteiefngamccapaa
namespace Go.Proofs.Yteiefngamccapaa
open Go.RowKit Go.Deep

/-- A text of at most 400 bytes that tells numbers. -/
def TR (s : ByteArray) (us : List Nat) : Prop := s.size ≤ 400 ∧ Told s.data.toList us
def RlEnd (s : ByteArray) (w : World) (e : Ending) (w' : World) : Prop :=
  ((e = .returned (.tuple #[.slice none 0 0, .bool false]) ∧ ∀ us, ¬ TR s us) ∨
    (∃ (us : List Nat) (bo : Option Addr) (c : Nat), TR s us ∧ e = .returned (.tuple #[.slice bo us.length c, .bool true]) ∧ Row w' bo us.length c (at0 (decode us)) w.heap.size)) ∧ Below w.heap.size w w'

theorem acc_st {z : Nat → Int} (hz : ∀ i, In64 (z i)) : ∀ i, accF z 1 i = stF z (i + 1)
  | 0 => by
    rw [accF, stF_succ, stF_zero, Int.zero_add, Nat.zero_add]
    exact (w64_id (hz 1)).symm
  | i + 1 => by rw [accF_succ, acc_st hz i, stF_succ z (i + 1), ← w64_eq, Int.add_comm, show 1 + (i + 1) = i + 1 + 1 by omega]
theorem acc_la {z s : Nat → Int} {m : Nat} (h0 : s 0 = z 0) (hs : ∀ i, 0 < i → i < m → s i = stF z i) : ∀ i, i < m → accF s 0 i = laF z i
  | 0, _ => by rw [accF, laF_zero, h0]
  | i + 1, hi => by rw [accF_succ, acc_la h0 hs i (by omega), laF_succ, ← w64_eq, Nat.zero_add, hs (i + 1) (by omega) hi, Int.add_comm]
theorem sum_la {us : List Nat} (h : Fit64 us) {i : Nat} (hi : i < us.length) : sumF (sumF (zagL us) 1 (us.length - 1)) 0 us.length i = at0 (decode us) i := by
  have e : at0 (decode us) i = laF (zagL us) i := by unfold at0 decode; rw [getD_range_map _ _ _ _ hi]
  rw [e]
  have h0 : sumF (zagL us) 1 (us.length - 1) 0 = zagL us 0 := by unfold sumF; rw [if_neg (by omega)]
  have hs : ∀ j, 0 < j → j < us.length → sumF (zagL us) 1 (us.length - 1) j = stF (zagL us) j := fun j h1 h2 => by
    unfold sumF
    rw [if_pos ⟨by omega, by omega⟩, acc_st (zagL_in h), show j - 1 + 1 = j by omega]
  generalize sumF (zagL us) 1 (us.length - 1) = q at h0 hs
  unfold sumF
  rw [if_pos ⟨by omega, by omega⟩, Nat.sub_zero]
  exact acc_la h0 hs i hi

theorem zero_block (w : World) (C : Array Value) (hC : C = Array.replicate 60 (.int .i64 0)) : RF (w.alloc (.cells C 153)) w.heap.size 153 60 60 (fun _ => 0) := by
  subst hC
  refine ⟨Nat.le_refl _, fun _ => .int .i64 0, fun _ _ => rfl, Array.replicate 60 (.int .i64 0), blk_alloc_new _ _, by simp, fun i hi => by simp [hi]⟩
theorem put_zag (us : List Nat) (u j : Nat) : (if j = us.length then zagI u else if j < us.length then zagL us j else 0) = if j < (us ++ [u]).length then zagL (us ++ [u]) j else 0 := by
  rw [List.length_append, List.length_singleton]
  by_cases e : j = us.length
  · subst e
    rw [if_pos rfl, if_pos (by omega), zagL_end]
  · rw [if_neg e]
    by_cases h : j < us.length
    · rw [if_pos h, if_pos (by omega), zagL_pre us u h]
    · rw [if_neg h, if_neg (by omega)]

/-- What the reader at the front of a text answers. -/
def FrontP (D : List UInt8) (w : World) (e : Ending) (w' : World) : Prop :=
  ((e = .returned (.tuple #[.slice none 0 0, .int .i64 0, .bool false]) ∧ ∀ us, ¬ Fr D us) ∨
    (∃ (us : List Nat) (a : Nat) (bo : Option Addr) (c : Nat), At D us.length us a ∧ us.length ≤ 60 ∧ e = .returned (.tuple #[.slice bo us.length c, .int .i64 a, .bool true]) ∧ Row w' bo us.length c (at0 (decode us)) w.heap.size)) ∧ Below w.heap.size w w'

set_option maxHeartbeats 4000000 in
set_option maxRecDepth 100000 in
theorem front71 (s : ByteArray) (hs : s.size ≤ 1048576) (w : World) : Calls Try.prog 112 #[.string s] w (FrontP s.data.toList w) := by
  have hlen : s.data.toList.length = s.size := rfl
  obtain ⟨D, hD⟩ : ∃ D, D = s.data.toList := ⟨_, rfl⟩
  have HR38 := Lib.hid (fun a ha W => read38 s a hs ha W)
  rw [← hD] at HR38 hlen ⊢
  clear hD
  go_enter Try.func112, Try.ntmps112
  go_wp2_with fail
  refine (HR38.out 0 (by omega) _).mono ?_
  rintro e w1 ⟨⟨hn, rfl⟩ | ⟨m, hm, rfl⟩, hb1⟩
  · have HN : Hid (∀ us, ¬ Fr D us) := Lib.hid (fr_first (D := D) (by simpa using hn))
    have HB1 := Lib.hid hb1
    clear hn hb1
    go_wp2
    go_ret3
    exact ⟨.inl ⟨rfl, HN.out⟩, HB1.out⟩
  rw [List.drop_zero] at hm
  have HB1 := Lib.hid hb1
  by_cases h60 : m ≤ 60
  case neg =>
    have HN : Hid (∀ us, ¬ Fr D us) := Lib.hid (fr_many hm (by omega))
    obtain ⟨p, hp⟩ : ∃ p : Nat, p = (putV m).length := ⟨_, rfl⟩
    rw [← hp]
    clear hb1 hm hp
    go_wp2
    go_ret3
    exact ⟨.inl ⟨rfl, HN.out⟩, HB1.out⟩
  have HAT := Lib.hid (at_first (readV_is hm))
  obtain ⟨p, hp⟩ : ∃ p : Nat, p = 0 + (putV m).length := ⟨_, rfl⟩
  rw [← hp]
  rw [Nat.zero_add] at hp
  rw [← hp] at HAT
  clear hb1 hm hp
  go_wp2
  go_loopw [6, 31] (fun ap i wr => ∃ (us : List Nat) (a : Nat), us.length ≤ m ∧ ap = .int .i64 a ∧ i = .int .i64 us.length ∧ Hid (At D m us a) ∧ Hid (RF wr w1.heap.size 153 60 60 (fun j => if j < us.length then zagL us j else 0)) ∧ Hid (Below w.heap.size w wr)) (fun _ i _ => m - (intOf i).toNat)
  case atStart => exact ⟨[], p, Nat.zero_le _, rfl, rfl, HAT, Lib.hid ((zero_block w1 _ rfl).congr fun i _ => by simp), Lib.hid (HB1.out.alloc HB1.out.size _)⟩
  case round =>
    obtain ⟨us, a, hle, rfl, rfl, hA, hR, hB⟩ := hrel
    have hal := at_le hA.out
    by_cases hlt : us.length < m
    · go_wp2_with fail
      refine (HR38.out a (by omega) _).mono ?_
      rintro e w2 ⟨⟨hn, rfl⟩ | ⟨u, hu, rfl⟩, hb2⟩
      · have HN : Hid (∀ us, ¬ Fr D us) := Lib.hid (fr_none hA.out hlt hn)
        have HB2 := Lib.hid (hB.out.trans (hb2.mono hB.out.size))
        clear hn hb2
        go_wp2
        go_ret3
        exact ⟨.inl ⟨rfl, HN.out⟩, HB2.out⟩
      have hst := readV_is hu
      have HA2 := Lib.hid (at_next hA.out hst)
      have hR2 := hR.out.below hb2
      have hto := hR2.cell (i := us.length) (by omega)
      have hfz := hR2.frozen us.length
      have HR2 := Lib.hid ((hR2.set us.length (zagI u)).congr (f' := fun j => if j < (us ++ [u]).length then zagL (us ++ [u]) j else 0) (fun j _ => put_zag us u j))
      have HZ := Lib.hid (fun W => zag21 u hst.1 W)
      have HB2 := Lib.hid ((hB.out.trans (hb2.mono hB.out.size)).setCell (p := ⟨w1.heap.size, us.length, none⟩) HB1.out.size (.int .i64 (zagI u)))
      have HL0 : Hid ((us ++ [u]).length = us.length + 1) := Lib.hid (by simp)
      obtain ⟨E, hE⟩ : ∃ E : Nat, E = a + (putV u).length := ⟨_, rfl⟩
      rw [← hE] at HA2 ⊢
      clear hu hb2 hst hE hR2 hA hR hB
      generalize zagI u = x at HZ HR2 HB2
      go_wp2_with fail
      refine (HZ.out _).mono ?_
      rintro e w3 ⟨rfl, rfl⟩
      go_wp2
      go_roundw
      case rel => exact ⟨us ++ [u], E, by rw [HL0.out]; omega, by go_num, by rw [HL0.out]; go_num, HA2, HR2, HB2⟩
      case measure => simp [intOf]; omega
    · have hm : us.length = m := by omega
      subst hm
      have HFit := Lib.hid hA.out.2.2
      have HW : Hid (Row wr (some ⟨w1.heap.size, 0, none⟩) us.length us.length (zagL us) w.heap.size) := Lib.hid ⟨Nat.le_refl _, fun _ => ⟨w1.heap.size, 153, 60, rfl, HB1.out.size, (hR.out.less h60).congr fun i hi => by rw [if_pos hi]⟩⟩
      have HSum := Lib.hid (fun i hi => sum_la (us := us) HFit.out (i := i) hi)
      clear hR
      go_wp2_with fail
      refine (behindAll49 _ us.length us.length _ _ _ HW.out).mono ?_
      rintro e w4 ⟨⟨v4, rfl, ht⟩, rfl⟩
      have HTl := Lib.hid ht
      clear ht
      go_wp2_with fail
      refine (tail54 _ us.length us.length _ _ v4 h60 _ HW.out HTl.out).mono ?_
      rintro e w5 ⟨⟨r5, rfl⟩, hR5, hb5⟩
      have HR5 := Lib.hid hR5; have HB5 := Lib.hid (hB.out.trans hb5)
      clear hR5 hb5
      go_wp2_with fail
      refine (fromAll54 _ us.length us.length _ _ h60 _ HR5.out).mono ?_
      rintro e w6 ⟨⟨r6, rfl⟩, hR6, hb6⟩
      have HR6 := Lib.hid (hR6.congr HSum.out); have HB6 := Lib.hid (HB5.out.trans hb6)
      clear hR6 hb6
      go_wp2
      go_ret3
      exact ⟨.inr ⟨us, a, _, _, hA.out, h60, rfl, HR6.out⟩, HB6.out⟩

end Go.Proofs.Yteiefngamccapaa
namespace Go.Proofs.Yteiefngamccapaa
open Go.RowKit Go.Deep

/-- A slice of n numbers f at the front of a block of type t. -/
def RowT (w : World) (bo : Option Addr) (n c : Nat) (f : Nat → Int) (t : TypeId) : Prop := n ≤ c ∧ (0 < n → ∃ g N, bo = some ⟨g, 0, none⟩ ∧ RF w g t N n f)
/-- A row that was known of a type is known of it where its block has not been turned into another. -/
theorem RowT.congr {w : World} {bo : Option Addr} {n c : Nat} {f f' : Nat → Int} {t : TypeId} (h : RowT w bo n c f t) (he : ∀ i, i < n → f i = f' i) : RowT w bo n c f' t :=
  ⟨h.1, fun hp => by obtain ⟨g, N, e, hr⟩ := h.2 hp; exact ⟨g, N, e, hr.congr he⟩⟩
theorem RowT.below {w w' : World} {bo : Option Addr} {n c : Nat} {f : Nat → Int} {t : TypeId} (h : RowT w bo n c f t) (hb : Below w.heap.size w w') : RowT w' bo n c f t :=
  ⟨h.1, fun hp => by obtain ⟨g, N, e, hr⟩ := h.2 hp; exact ⟨g, N, e, hr.below hb⟩⟩
theorem fromT (bo : Option Addr) (n c B : Nat) (f : Nat → Int) (t : TypeId) (hn : n ≤ 60) (w : World) (h : Row w bo n c f B) (hT : RowT w bo n c f t) :
    Calls Try.prog 129 #[.slice bo n c] w fun e w' => (∃ r, e = .returned r) ∧ (Row w' bo n c (sumF f 0 n) B ∧ RowT w' bo n c (sumF f 0 n) t) ∧ Below B w w' := by
  by_cases h2 : n ≤ 1
  · refine (from_small bo n c h2 w).mono ?_
    rintro e w' ⟨hr, rfl⟩
    have he : ∀ i, i < n → f i = sumF f 0 n i := fun i hi => by
      obtain rfl : i = 0 := by omega
      unfold sumF; rw [if_pos ⟨by omega, by omega⟩, Nat.sub_self, accF]
    exact ⟨hr, ⟨h.congr he, hT.congr he⟩, Below.refl _ _⟩
  · obtain ⟨hc, hr⟩ := h
    obtain ⟨g, N, rfl, hR⟩ := hT.2 (by omega)
    obtain ⟨g2, t2, N2, e2, hB, _⟩ := hr (by omega)
    injection e2 with e2
    injection e2 with e2
    subst e2
    refine (from54 g 0 n c N n B t f (by omega) hn (by omega) hB w hR).mono ?_
    rintro e w' ⟨hr, hR', hS⟩
    exact ⟨hr, ⟨⟨hc, fun _ => ⟨g, t, N, rfl, hB, hR'⟩⟩, ⟨hc, fun _ => ⟨g, N, rfl, hR'⟩⟩⟩, hS.1⟩
theorem tailT (bo : Option Addr) (n c B : Nat) (f : Nat → Int) (t : TypeId) (v : Value) (hn : n ≤ 60) (w : World) (h : Row w bo n c f B) (hT : RowT w bo n c f t) (ht : Tail bo n c v) :
    Calls Try.prog 129 #[v] w fun e w' => (∃ r, e = .returned r) ∧ (Row w' bo n c (sumF f 1 (n - 1)) B ∧ RowT w' bo n c (sumF f 1 (n - 1)) t) ∧ Below B w w' := by
  rcases ht with ⟨h1, bo', d, rfl⟩ | ⟨h2, g', rfl, rfl⟩
  · refine (from_small bo' 0 d (by omega) w).mono ?_
    rintro e w' ⟨hr, rfl⟩
    have he : ∀ i, i < n → f i = sumF f 1 (n - 1) i := fun i hi => by unfold sumF; rw [if_neg (by omega)]
    exact ⟨hr, ⟨h.congr he, hT.congr he⟩, Below.refl _ _⟩
  · obtain ⟨hc, hr⟩ := h
    obtain ⟨g, N, e, hR⟩ := hT.2 (by omega)
    injection e with e
    injection e with e
    subst e
    obtain ⟨g2, t2, N2, e2, hB, _⟩ := hr (by omega)
    injection e2 with e2
    injection e2 with e2
    subst e2
    by_cases h3 : n = 2
    · subst h3
      refine (from_small _ 1 _ (by omega) w).mono ?_
      rintro e w' ⟨hr', rfl⟩
      have he : ∀ i, i < 2 → f i = sumF f 1 (2 - 1) i := fun i hi => by
        unfold sumF
        by_cases e : 1 ≤ i ∧ i < 1 + (2 - 1)
        · rw [if_pos e]
          obtain rfl : i = 1 := by omega
          rw [Nat.sub_self, accF]
        · rw [if_neg e]
      exact ⟨hr', ⟨⟨hc, fun _ => ⟨g', t, N, rfl, hB, hR.congr he⟩⟩, ⟨hc, fun _ => ⟨g', N, rfl, hR.congr he⟩⟩⟩, Below.refl _ _⟩
    · refine (from54 g' 1 (n - 1) _ N n B t f (by omega) (by omega) (by omega) hB w hR).mono ?_
      rintro e w' ⟨hr', hR', hS⟩
      exact ⟨hr', ⟨⟨hc, fun _ => ⟨g', t, N, rfl, hB, hR'⟩⟩, ⟨hc, fun _ => ⟨g', N, rfl, hR'⟩⟩⟩, hS.1⟩
/-- What the reader at the front of a text answers. -/
def FrontT (D : List UInt8) (w : World) (e : Ending) (w' : World) : Prop :=
  ((e = .returned (.tuple #[.slice none 0 0, .int .i64 0, .bool false]) ∧ ∀ us, ¬ Fr D us) ∨
    (∃ (us : List Nat) (a : Nat) (bo : Option Addr) (c : Nat), At D us.length us a ∧ us.length ≤ 60 ∧ e = .returned (.tuple #[.slice bo us.length c, .int .i64 a, .bool true]) ∧ RowT w' bo us.length c (at0 (decode us)) 153)) ∧ Below w.heap.size w w'

set_option maxHeartbeats 4000000 in
set_option maxRecDepth 100000 in
theorem frontT71 (s : ByteArray) (hs : s.size ≤ 1048576) (w : World) : Calls Try.prog 112 #[.string s] w (FrontT s.data.toList w) := by
  have hlen : s.data.toList.length = s.size := rfl
  obtain ⟨D, hD⟩ : ∃ D, D = s.data.toList := ⟨_, rfl⟩
  have HR38 := Lib.hid (fun a ha W => read38 s a hs ha W)
  rw [← hD] at HR38 hlen ⊢
  clear hD
  go_enter Try.func112, Try.ntmps112
  go_wp2_with fail
  refine (HR38.out 0 (by omega) _).mono ?_
  rintro e w1 ⟨⟨hn, rfl⟩ | ⟨m, hm, rfl⟩, hb1⟩
  · have HN : Hid (∀ us, ¬ Fr D us) := Lib.hid (fr_first (D := D) (by simpa using hn))
    have HB1 := Lib.hid hb1
    clear hn hb1
    go_wp2
    go_ret3
    exact ⟨.inl ⟨rfl, HN.out⟩, HB1.out⟩
  rw [List.drop_zero] at hm
  have HB1 := Lib.hid hb1
  by_cases h60 : m ≤ 60
  case neg =>
    have HN : Hid (∀ us, ¬ Fr D us) := Lib.hid (fr_many hm (by omega))
    obtain ⟨p, hp⟩ : ∃ p : Nat, p = (putV m).length := ⟨_, rfl⟩
    rw [← hp]
    clear hb1 hm hp
    go_wp2
    go_ret3
    exact ⟨.inl ⟨rfl, HN.out⟩, HB1.out⟩
  have HAT := Lib.hid (at_first (readV_is hm))
  obtain ⟨p, hp⟩ : ∃ p : Nat, p = 0 + (putV m).length := ⟨_, rfl⟩
  rw [← hp]
  rw [Nat.zero_add] at hp
  rw [← hp] at HAT
  clear hb1 hm hp
  go_wp2
  go_loopw [6, 31] (fun ap i wr => ∃ (us : List Nat) (a : Nat), us.length ≤ m ∧ ap = .int .i64 a ∧ i = .int .i64 us.length ∧ Hid (At D m us a) ∧ Hid (RF wr w1.heap.size 153 60 60 (fun j => if j < us.length then zagL us j else 0)) ∧ Hid (Below w.heap.size w wr)) (fun _ i _ => m - (intOf i).toNat)
  case atStart => exact ⟨[], p, Nat.zero_le _, rfl, rfl, HAT, Lib.hid ((zero_block w1 _ rfl).congr fun i _ => by simp), Lib.hid (HB1.out.alloc HB1.out.size _)⟩
  case round =>
    obtain ⟨us, a, hle, rfl, rfl, hA, hR, hB⟩ := hrel
    have hal := at_le hA.out
    by_cases hlt : us.length < m
    · go_wp2_with fail
      refine (HR38.out a (by omega) _).mono ?_
      rintro e w2 ⟨⟨hn, rfl⟩ | ⟨u, hu, rfl⟩, hb2⟩
      · have HN : Hid (∀ us, ¬ Fr D us) := Lib.hid (fr_none hA.out hlt hn)
        have HB2 := Lib.hid (hB.out.trans (hb2.mono hB.out.size))
        clear hn hb2
        go_wp2
        go_ret3
        exact ⟨.inl ⟨rfl, HN.out⟩, HB2.out⟩
      have hst := readV_is hu
      have HA2 := Lib.hid (at_next hA.out hst)
      have hR2 := hR.out.below hb2
      have hto := hR2.cell (i := us.length) (by omega)
      have hfz := hR2.frozen us.length
      have HR2 := Lib.hid ((hR2.set us.length (zagI u)).congr (f' := fun j => if j < (us ++ [u]).length then zagL (us ++ [u]) j else 0) (fun j _ => put_zag us u j))
      have HZ := Lib.hid (fun W => zag21 u hst.1 W)
      have HB2 := Lib.hid ((hB.out.trans (hb2.mono hB.out.size)).setCell (p := ⟨w1.heap.size, us.length, none⟩) HB1.out.size (.int .i64 (zagI u)))
      have HL0 : Hid ((us ++ [u]).length = us.length + 1) := Lib.hid (by simp)
      obtain ⟨E, hE⟩ : ∃ E : Nat, E = a + (putV u).length := ⟨_, rfl⟩
      rw [← hE] at HA2 ⊢
      clear hu hb2 hst hE hR2 hA hR hB
      generalize zagI u = x at HZ HR2 HB2
      go_wp2_with fail
      refine (HZ.out _).mono ?_
      rintro e w3 ⟨rfl, rfl⟩
      go_wp2
      go_roundw
      case rel => exact ⟨us ++ [u], E, by rw [HL0.out]; omega, by go_num, by rw [HL0.out]; go_num, HA2, HR2, HB2⟩
      case measure => simp [intOf]; omega
    · have hm : us.length = m := by omega
      subst hm
      have HFit := Lib.hid hA.out.2.2
      have HW : Hid (Row wr (some ⟨w1.heap.size, 0, none⟩) us.length us.length (zagL us) w.heap.size) := Lib.hid ⟨Nat.le_refl _, fun _ => ⟨w1.heap.size, 153, 60, rfl, HB1.out.size, (hR.out.less h60).congr fun i hi => by rw [if_pos hi]⟩⟩
      have HWT : Hid (RowT wr (some ⟨w1.heap.size, 0, none⟩) us.length us.length (zagL us) 153) := Lib.hid ⟨Nat.le_refl _, fun _ => ⟨w1.heap.size, 60, rfl, (hR.out.less h60).congr fun i hi => by rw [if_pos hi]⟩⟩
      have HSum := Lib.hid (fun i hi => sum_la (us := us) HFit.out (i := i) hi)
      clear hR
      go_wp2_with fail
      refine (behindAll49 _ us.length us.length _ _ _ HW.out).mono ?_
      rintro e w4 ⟨⟨v4, rfl, ht⟩, rfl⟩
      have HTl := Lib.hid ht
      clear ht
      go_wp2_with fail
      refine (tailT _ us.length us.length _ _ 153 v4 h60 _ HW.out HWT.out HTl.out).mono ?_
      rintro e w5 ⟨⟨r5, rfl⟩, ⟨hR5, hT5⟩, hb5⟩
      have HR5 := Lib.hid hR5; have HT5 := Lib.hid hT5; have HB5 := Lib.hid (hB.out.trans hb5)
      clear hR5 hb5 hT5
      go_wp2_with fail
      refine (fromT _ us.length us.length _ _ 153 h60 _ HR5.out HT5.out).mono ?_
      rintro e w6 ⟨⟨r6, rfl⟩, ⟨_, hR6⟩, hb6⟩
      have HR6 := Lib.hid (hR6.congr HSum.out); have HB6 := Lib.hid (HB5.out.trans hb6)
      clear hR6 hb6
      go_wp2
      go_ret3
      exact ⟨.inr ⟨us, a, _, _, hA.out, h60, rfl, HR6.out⟩, HB6.out⟩

/-- What a round of the loop keeps: every block that is neither the list's variable nor a row of samples. -/
def KpT (W W' : World) : Prop := ∀ (g : Nat) (cs : Array Value) (t : TypeId), t ≠ 50 → t ≠ 42 → W.heap[g]? = some (.cells cs t) → W'.heap[g]? = some (.cells cs t)
theorem KpT.refl (W : World) : KpT W W := fun _ _ _ _ _ h => h
theorem KpT.trans {A B C : World} (h : KpT A B) (k : KpT B C) : KpT A C := fun g cs t h1 h2 h3 => k g cs t h1 h2 (h g cs t h1 h2 h3)
theorem KpT.put (W : World) (l : Nat) (o o' : Obj) (hl : W.heap[l]? = some o) (ho : o.isCells = false) : KpT W (W.putObj l o') := fun g cs t _ _ h => by
  rw [World.putObj_heap_other (fun e => ?_)]
  · exact h
  · subst e
    rw [hl] at h
    injection h with h
    rw [h] at ho
    cases ho
theorem KpT.boxed {W W' : World} {B : Nat} {t : TypeId} {v : Value} (h : KpT W W') (h1 : t ≠ 50) (h2 : t ≠ 42) (hb : Boxed W B t v) : Boxed W' B t v := h B _ t h1 h2 hb
theorem KpT.rowT {W W' : World} {bo : Option Addr} {n c : Nat} {f : Nat → Int} (h : KpT W W') (hr : RowT W bo n c f 153) : RowT W' bo n c f 153 :=
  ⟨hr.1, fun hp => by
    obtain ⟨g, N, e, hn, F, hF, C, hC, hz⟩ := hr.2 hp
    exact ⟨g, N, e, hn, F, hF, C, h g C 153 (by decide) (by decide) hC, hz⟩⟩
end Go.Proofs.Yteiefngamccapaa
namespace Go.Proofs.Yteiefngamccapaa
open Go.RowKit Go.Deep

theorem new_cell1 {w : World} {o : Obj} {v : Value} {t : TypeId} : ∀ j u, [v][j]? = some u → ((w.alloc o).alloc (.cells #[v] t)).cell? ((⟨w.heap.size + 1, 0, none⟩ : Addr).add j) = some u := by
  intro j u hj
  have := new_cell (w := w.alloc o) (v := v) (t := t) j u hj
  rwa [World.size_alloc] at this
/-- The times of the first k samples, as cells. -/
def tmC (l : List Smp) (k : Nat) : List Value := ((l.map (·.1)).take k).map (Value.int .i64)
/-- The times of the first k samples have been gathered. -/
def TmInv (w : World) (l : List Smp) (k : Nat) (v : Value) (wr : World) : Prop := wr.ownsRow w.heap.size 3 1 v k (tmC l k) ∧ Below w.heap.size w wr
theorem tm_zero (w wr : World) (l : List Smp) (h : Below w.heap.size w wr) : TmInv w l 0 (.slice none 0 0) wr := ⟨World.ownsRow_nil _ _ _ _, h⟩
theorem tm_step {w wr w4 : World} {l : List Smp} {k : Nat} {v v' : Value} {o o' : Obj} {x : Int} (hk : k < l.length) (hx : x = tF l k) (h : TmInv w l k v wr)
    (ho' : w4.ownsRow w.heap.size 3 1 v' (k + 1) (tmC l k ++ [.int .i64 x])) (hg : ((wr.alloc o).alloc o').grownBy w4 v.ownBlock) : TmInv w l (k + 1) v' w4 := by
  obtain ⟨ho, hb⟩ := h
  have hb1 := hb.alloc hb.size o
  refine ⟨?_, own_grown (hb1.alloc hb1.size o') ((ho.alloc o).alloc o') hg (Nat.le_refl _)⟩
  have hk' : k < (l.map (·.1)).length := by simpa using hk
  unfold tmC at ho' ⊢
  rw [List.take_succ_eq_append_getElem hk', List.map_append]
  have e : (l.map (·.1))[k] = x := by rw [List.getElem_map, hx, tF_at hk]
  rw [e]
  exact ho'
theorem tm_all {w wr : World} {l : List Smp} {v : Value} (h : TmInv w l l.length v wr) : wr.ownsRow w.heap.size 3 1 v (l.map (·.1)).length ((l.map (·.1)).map (Value.int .i64)) := by
  have := h.1
  unfold tmC at this
  rw [List.take_of_length_le (by simp)] at this
  simpa using this
theorem xor_run {a b : Nat} (ha : a < 18446744073709551616) (hb : b < 18446744073709551616) : bits .xor .u64 (a : Int) (b : Int) = ((a ^^^ b : Nat) : Int) := bits_xor_u64_nat a b ha hb
theorem start_bytesP (l : List Smp) : [] ++ Lib.strCells (strE (l.map (·.1))) = Lib.byteCells (enc (l.map (·.1)) ++ tailK l 0) := by rw [List.nil_append, tailK_zero, List.append_nil]; rfl
theorem next_bytesP {l : List Smp} {k : Nat} (hk : k < l.length) : Lib.byteCells (enc (l.map (·.1)) ++ tailK l k) ++ Lib.strCells (txtV (fxV l k)) = Lib.byteCells (enc (l.map (·.1)) ++ tailK l (k + 1)) := by
  rw [tailK_succ hk, ← List.append_assoc, Lib.byteCells_append _ (putV (fxV l k))]; rfl
def PInv (w : World) (b : Nat) (l : List Smp) (k : Nat) (wr : World) : Prop := Lib.BuilderAt 134 5 b b (.pointer (some ⟨b, 0, none⟩)) (Lib.byteCells (enc (l.map (·.1)) ++ tailK l k)) wr ∧ Below b w wr

set_option maxHeartbeats 4000000 in
set_option maxRecDepth 100000 in
theorem bytes75 (ao : Option Addr) (cap : Nat) (l : List Smp) (hF : FitS l) (h8 : l.length ≤ 8) (w : World) (h : SRow w w.heap.size ao l) :
    Calls Try.prog 91 #[.slice ao l.length cap] w fun e w' => e = .returned (.string (strP l)) ∧ Below w.heap.size w w' := by
  have H := Lib.hid h
  have HF := Lib.hid hF
  have HT := Lib.hid (fit_times hF)
  clear h hF
  obtain ⟨i0, hi, hz0, hz1, hz2⟩ := info_parts Try.info3
  have hst := @run_store_float Try.prog
  go_enter Try.func91, Try.ntmps91
  go_wp2
  go_loopw [3, 15] (fun v i wr => ∃ k : Nat, k ≤ l.length ∧ i = .int .i64 k ∧ Hid (TmInv w l k v wr)) (fun _ i _ => l.length - (intOf i).toNat)
  case atStart => exact ⟨0, Nat.zero_le _, rfl, Lib.hid (tm_zero w w l (Below.refl _ _))⟩
  case round =>
    obtain ⟨k, hk, rfl, hI⟩ := hrel
    by_cases hlt : k < l.length
    · obtain ⟨b, off, hao, hbl, hc⟩ := H.out.tv (by omega)
      subst hao
      have c0 := (hI.out.2.cell (p := ⟨b, off + k * 2, none⟩) hbl).trans (hc k hlt).1
      have c1 := (hI.out.2.cell (p := ⟨b, off + k * 2 + 1, none⟩) hbl).trans (hc k hlt).2
      clear hc
      obtain ⟨t, ht⟩ : ∃ t, t = tF l k := ⟨_, rfl⟩
      obtain ⟨x, hx⟩ : ∃ x, x = vF l k := ⟨_, rfl⟩
      rw [← ht] at c0
      rw [← hx] at c1
      have HStep := Lib.hid (fun (w4 : World) (v' : Value) (o o' : Obj) ho' hg => tm_step (w4 := w4) (v' := v') (o := o) (o' := o') hlt ht hI.out ho' hg)
      have HO := Lib.hid hI.out.1
      have hsz := hI.out.2.size
      clear ht hx
      go_wp2_with (at_builtin; refine wpList_append_own _ rfl _ _ 47 rfl w.heap.size 3 i0 (.int .i64 0) 1 8 Try.underlying47 hi hz0 hz1 hz2 rfl (by decide) _ _ _ rfl ((HO.out.alloc _).alloc _) ⟨wr.heap.size + 1, 0, none⟩ 1 1 [.int .i64 t] rfl rfl new_cell1 ?c2 ?c3 ?c4 ?c5 ?_)
      case c2 => intro u hu; simp at hu; subst hu; rfl
      case c3 => unfold maxLen; omega
      case c4 => omega
      case c5 => simp; omega
      intro v' w4 hown' hgrow _
      have HI4 := Lib.hid (HStep.out _ _ _ _ hown' hgrow)
      clear hown' hgrow
      go_wp2
      go_roundw
      case rel => exact ⟨k + 1, by omega, by go_num, HI4⟩
      case measure => simp [intOf]; omega
    · obtain rfl : k = l.length := by omega
      obtain ⟨ao1, c1, hv1, hR1⟩ := IRow.of_own HT.out (tm_all hI.out)
      subst hv1
      have HR1 := Lib.hid hR1
      have HB1 := Lib.hid hI.out.2
      have HFits := Lib.hid (strE_fits HT.out (by simpa using h8))
      have HPut := Lib.hid (putF_yes HFits.out)
      have HSm := Lib.hid (strE_small HT.out (by simpa using h8))
      have hml : (l.map (·.1)).length = l.length := by simp
      have HC := Lib.hid (putl27 ao1 c1 (l.map (·.1)) (by rw [hml]; omega) wr HR1.out)
      rw [HPut.out, HFits.out] at HC
      clear hR1 hI
      generalize (l.map (·.1)).length = n1 at hml HC ⊢
      clear hml
      go_wp2_with fail
      refine HC.out.mono ?_
      rintro e w4 ⟨rfl, hb4⟩
      have HB4 := Lib.hid (HB1.out.trans (hb4.mono HB1.out.size))
      clear hb4 HC HR1 HB1
      have HF0 := Lib.hid (Lib.fresh_isBuilder 134 5 w4)
      have HBa := Lib.hid ((Below.refl w4.heap.size w4).alloc (Nat.le_refl _) (.cells #[.pointer none, .slice none 0 0] 134))
      have HS0 := Lib.hid (start_bytesP l)
      have HT2 := Lib.hid (tailK_len l)
      have HEl : Hid ((enc (l.map (·.1))).length ≤ 400) := Lib.hid (by have := HSm.out; simpa [strE, ByteArray.size] using this)
      obtain ⟨S, hS⟩ : ∃ S, S = strE (l.map (·.1)) := ⟨_, rfl⟩
      rw [← hS] at HS0 HSm ⊢
      have hSz := HSm.out
      clear hS
      go_wp2_with fail
      refine (write50 w4.heap.size w4.heap.size [] S _ HF0.out (by simp only [List.length_nil]; omega) HBa.out.size).mono ?_
      rintro e w6 ⟨⟨r6, rfl⟩, hA6, hb6⟩
      rw [HS0.out] at hA6
      have HI : Hid (PInv w4 w4.heap.size l 0 w6) := Lib.hid ⟨hA6, HBa.out.trans hb6⟩
      clear hA6 hb6 HF0 HBa HS0
      go_wp2_with fail
      go_loopw [9, 34] (fun q i wr => ∃ k : Nat, k ≤ l.length ∧ i = .int .i64 k ∧ q = .int .u64 (prevV l k : Nat) ∧ Hid (PInv w4 w4.heap.size l k wr)) (fun _ i _ => l.length - (intOf i).toNat)
      case atStart => exact ⟨0, Nat.zero_le _, rfl, by rw [prevV_zero]; rfl, HI⟩
      case round =>
        obtain ⟨k, hk, rfl, rfl, hI⟩ := hrel
        by_cases hlt : k < l.length
        · obtain ⟨b, off, hao, hbl, hc⟩ := (H.out.below HB4.out).tv (by omega)
          subst hao
          have hbl4 : b < w4.heap.size := Nat.lt_of_lt_of_le hbl HB4.out.size
          have c0 := (hI.out.2.cell (p := ⟨b, off + k * 2, none⟩) hbl4).trans (hc k hlt).1
          have c1 := (hI.out.2.cell (p := ⟨b, off + k * 2 + 1, none⟩) hbl4).trans (hc k hlt).2
          have HE := Lib.hid (next_bytesP hlt)
          have HX := Lib.hid (xor_run (vF_lt HF.out k) (prevV_lt HF.out k))
          have HXl := Lib.hid (xor_lt64 (vF_lt HF.out k) (prevV_lt HF.out k))
          have HPs := Lib.hid (prevV_succ l k)
          have hlen := HT2.out k
          have hlen2 := HEl.out
          unfold fxV at HE
          have HBb := Lib.hid (hI.out.2.alloc hI.out.2.size (.cells #[.int .i64 (tF l k), .float .f64 (vF l k)] 42))
          have HAb := Lib.hid (bld_below hI.out.1 ((Below.refl wr.heap.size wr).alloc (Nat.le_refl _) (.cells #[.int .i64 (tF l k), .float .f64 (vF l k)] 42)))
          clear hc hI
          generalize tF l k = t at c0 HBb HAb
          generalize vF l k = x at c1 HE HX HXl HPs HBb HAb
          generalize prevV l k = p at HE HX HXl ⊢
          go_wp2_with fail
          refine (bits17 x _).mono ?_
          rintro e w7 ⟨rfl, rfl⟩
          have hxor := HX.out
          generalize x ^^^ p = y at HE hxor HXl
          go_wp2_with fail
          refine (flip19 y HXl.out _).mono ?_
          rintro e w8 ⟨rfl, rfl⟩
          have HFl := Lib.hid (flipN_lt y)
          generalize flipN y = z at HE HFl
          go_wp2_with fail
          refine (put14 z HFl.out _).mono ?_
          rintro e w9 ⟨rfl, hb9⟩
          have hz := putV_ten HFl.out
          rw [← txtV_size] at hz
          have HA9 := Lib.hid (bld_below HAb.out hb9)
          have HB9 := Lib.hid (HBb.out.trans (hb9.mono HBb.out.size))
          clear hb9
          go_wp2_with fail
          refine (write50 w4.heap.size w4.heap.size (Lib.byteCells (enc (l.map (·.1)) ++ tailK l k)) (txtV z) _ (.inr HA9.out) (by rw [Lib.byteCells_length, List.length_append]; omega) HB9.out.size).mono ?_
          rintro e w10 ⟨⟨r10, rfl⟩, hA10, hb10⟩
          rw [HE.out] at hA10
          have HI10 : Hid (PInv w4 w4.heap.size l (k + 1) w10) := Lib.hid ⟨hA10, HB9.out.trans hb10⟩
          clear hA10 hb10
          go_wp2
          go_roundw
          case rel => exact ⟨k + 1, by omega, by go_num, by rw [HPs.out], HI10⟩
          case measure => simp [intOf]; omega
        · obtain rfl : k = l.length := by omega
          obtain ⟨hA, hb⟩ := hI.out
          rw [tailK_all] at hA
          have HA := Lib.hid hA
          have HB := Lib.hid (HB4.out.trans (hb.mono HB4.out.size))
          have hsz := hb.size
          have HC := Lib.hid (Try.Builder_String_any w4.heap.size w4.heap.size (packB l) _ (.inr HA.out) hsz)
          have he : (⟨(packB l).toArray⟩ : ByteArray) = strP l := rfl
          rw [he] at HC
          clear he HA hA hb hI
          obtain ⟨s, hs⟩ : ∃ s, s = strP l := ⟨_, rfl⟩
          have HSs := Lib.hid hs
          rw [← hs] at HC
          clear hs
          go_wp2_with fail
          refine HC.out.mono ?_
          rintro e w8 ⟨rfl, hb8⟩
          have HB8 := Lib.hid (HB.out.trans (hb8.mono HB4.out.size))
          clear hb8
          go_wp2
          go_ret
          exact ⟨ret_str HSs.out, HB8.out⟩
end Go.Proofs.Yteiefngamccapaa
namespace Go.Proofs.Yteiefngamccapaa
open Go.RowKit Go.Shelf
attribute [local go_sem] Oper.semAt_some

/-- What is gathered out of a text: what was packed there, if something was. -/
def Col (D : List UInt8) (xs : List Smp) : Prop := FitS xs ∧ xs.length ≤ 60 ∧ (∀ l, FitS l → l.length ≤ 60 → D = packB l → xs = l) ∧ (D = [] → xs = [])
theorem col_none {D : List UInt8} (h : ∀ us, ¬ Fr D us) : Col D [] := ⟨fun x hx => by simp at hx, by simp, fun l hl h60 hD => absurd (hD ▸ packB_front hl h60) (h _), fun _ => rfl⟩
theorem at_pos {D : List UInt8} {m a : Nat} {us : List Nat} (h : At D m us a) : D ≠ [] := by
  intro e
  have h1 := congrArg List.length h.1
  rw [e, List.length_append] at h1
  have hp := putV_pos m
  rw [List.length_nil] at h1
  omega
theorem col_stop {D : List UInt8} {a : Nat} {us vs : List Nat} (h : At D us.length (us ++ vs) a) (h60 : us.length ≤ 60) (hv : vs.length < us.length) (hr : readV (D.drop a) = none) : Col D (smpOf us vs) :=
  ⟨smpOf_fit (fit_left h.2.2), by rw [smpOf_len (by omega)]; omega, fun l hl _ hD => absurd hD (read_stop h rfl hv hr hl), fun e => absurd e (at_pos h)⟩
theorem col_all {D : List UInt8} {a : Nat} {us vs : List Nat} (h : At D us.length (us ++ vs) a) (h60 : us.length ≤ 60) (hv : vs.length = us.length) : Col D (smpOf us vs) :=
  ⟨smpOf_fit (fit_left h.2.2), by rw [smpOf_len (by omega)]; omega, fun l hl _ hD => (read_back h rfl hv hl hD).1, fun e => absurd e (at_pos h)⟩
abbrev smpV (x : Smp) : Array Value := #[.agg #[.int .i64 x.1, .float .f64 x.2]]

set_option maxRecDepth 100000 in
set_option maxHeartbeats 4000000 in
theorem iter108 (n : Nat) (hn : 1 ≤ n) (l Bn B : Nat) (s : ByteArray) (hs : s.size ≤ 1048576) (J Jx : List Smp → World → Prop) (hJ : AbidesFrom B J)
    (hY : ∀ pre x W, J pre W → pre.length < 60 → YieldAt Fence.wide (n - 1) Try.prog l (smpV x) W fun e W' =>
      (e = .returned (.bool true) ∧ J (pre ++ [x]) W' ∧ KpT W W') ∨ (e = .returned (.bool false) ∧ Jx (pre ++ [x]) W'))
    (W : World) (hBn : Boxed W Bn 9 (.string s)) (h0 : J [] W) :
    CallsIn Fence.wide n Try.prog 111 #[.func (.yield l) #[] #[], .pointer (some ⟨Bn, 0, none⟩)] W fun e W' => (∃ v, e = .returned v) ∧
      ((∃ ys, Col s.data.toList ys ∧ J ys W') ∨ (∃ pre, True ∧ Jx pre W')) := by
  have HJ := Lib.hid (fun (ys : List Smp) (A C : World) (hj : J ys A) (hb : Below A.heap.size A C) => hJ ys A C none hj (gb_below hb) (fun r e => by cases e))
  have HY := Lib.hid hY
  have HF := Lib.hid (fun A => frontT71 s hs A)
  have HR38 := Lib.hid (fun a ha A => read38 s a hs ha A)
  have hlen : s.data.toList.length = s.size := rfl
  obtain ⟨D, hD⟩ : ∃ D, D = s.data.toList := ⟨_, rfl⟩
  rw [← hD] at HF HR38 hlen ⊢
  have HBn := Lib.hid hBn
  have H0 := Lib.hid h0
  have hc0 := hBn.cell
  clear hD hJ hY hBn h0
  refine callsIn_of_wp Try.func111 rfl trivial ?_ rfl
  simp only [Try.ntmps111, List.size_toArray, List.length_cons, List.length_nil, Nat.reduceAdd, Nat.reduceSub, Array.replicate_succ, Array.replicate_zero, List.push_toArray, List.append_toArray, List.nil_append, List.cons_append]
  gi_wp2_with fail
  refine ⟨trivial, ?_⟩
  refine (callsIn_wide.2 (HF.out W)).mono ?_
  rintro e w1 ⟨⟨rfl, hno⟩ | ⟨us, a, bo, c, hat, h60, rfl, hR⟩, hb1⟩
  · have HC := Lib.hid (col_none hno)
    have HJ1 := Lib.hid (HJ.out _ _ _ H0.out hb1)
    clear hno hb1
    gi_wp2
    gi_loopw [20] (fun i wr => i = .int .i64 0 ∧ Hid (J [] wr)) (fun _ _ => 0)
    case atStart => exact ⟨rfl, HJ1⟩
    case round =>
      obtain ⟨rfl, hj⟩ := hrel
      gi_wp2
      go_end0
      exact ⟨⟨_, rfl⟩, .inl ⟨[], HC.out, hj.out⟩⟩
  have HJ1 := Lib.hid (HJ.out _ _ _ H0.out hb1)
  have HB1 : Hid (Boxed w1 Bn 9 (.string s)) := Lib.hid (HBn.out.kept (gb_below hb1 (row := none)) (by simp))
  have HR := Lib.hid hR
  have HA := Lib.hid (show At D us.length (us ++ []) a by rw [List.append_nil]; exact hat)
  clear hR hb1 hat hc0 H0 HBn
  gi_wp2
  gi_loopw [4, 6, 20] (fun ap q i wr => ∃ (vs : List Nat) (a : Nat), vs.length ≤ us.length ∧ ap = .int .i64 a ∧ q = .int .u64 (lastX vs : Nat) ∧ i = .int .i64 vs.length ∧ Hid (At D us.length (us ++ vs) a) ∧ Hid (J (smpOf us vs) wr) ∧ Hid (Boxed wr Bn 9 (.string s)) ∧ Hid (RowT wr bo us.length c (at0 (decode us)) 153)) (fun _ _ i _ => us.length - (intOf i).toNat)
  case atStart => exact ⟨[], a, Nat.zero_le _, rfl, by rw [lastX_nil]; rfl, rfl, HA, by rw [smpOf_nil]; exact HJ1, HB1, HR⟩
  case round =>
    obtain ⟨vs, a, hle, rfl, rfl, rfl, hA, hj, hbx, hrw⟩ := hrel
    have hal := at_le hA.out
    by_cases hlt : vs.length < us.length
    · obtain ⟨g, N, hbo, hRF⟩ := hrw.out.2 (by omega)
      subst hbo
      have c0 := hRF.cell hlt
      have c1 := hbx.out.cell
      clear hRF
      obtain ⟨x, hx⟩ : ∃ x, x = at0 (decode us) vs.length := ⟨_, rfl⟩
      have HX := Lib.hid hx
      rw [← hx] at c0
      clear hx
      gi_wp2_with fail
      refine ⟨trivial, ?_⟩
      refine (callsIn_wide.2 (HR38.out a (by omega) _)).mono ?_
      rintro e w2 ⟨⟨hno, rfl⟩ | ⟨u, hu, rfl⟩, hb2⟩
      · have HC := Lib.hid (col_stop hA.out h60 hlt hno)
        have HJ2 := Lib.hid (HJ.out _ _ _ hj.out hb2)
        clear hno hb2
        gi_wp2
        refine bodyPost_ret (results_none rfl _ _ _) rfl ?_
        exact ⟨⟨_, rfl⟩, .inl ⟨_, HC.out, HJ2.out⟩⟩
      have hst := readV_is hu
      have HJ2 := Lib.hid (HJ.out _ _ _ hj.out hb2)
      have HB2 : Hid (Boxed w2 Bn 9 (.string s)) := Lib.hid (hbx.out.kept (gb_below hb2 (row := none)) (by simp))
      have HR2 := Lib.hid (hrw.out.below hb2)
      have HA2 : Hid (At D us.length (us ++ (vs ++ [u])) (a + (putV u).length)) := Lib.hid (by rw [← List.append_assoc]; exact at_next hA.out hst)
      have HFl := Lib.hid (fun A => flip19 u hst.1 A)
      have HXo := Lib.hid (xor_run (lastX_lt vs) (flipN_lt u))
      have HLs := Lib.hid (lastX_snoc vs u)
      have HSn := Lib.hid (smpOf_snoc (us := us) (vs := vs) u hlt)
      have HLn := Lib.hid (smpOf_len (us := us) (vs := vs) (by omega))
      have hl0 : (vs ++ [u]).length = vs.length + 1 := by simp
      have HL0 := Lib.hid hl0
      rw [← HX.out] at HSn
      obtain ⟨E, hE⟩ : ∃ E : Nat, E = a + (putV u).length := ⟨_, rfl⟩
      rw [← hE] at HA2 ⊢
      clear hu hb2 hst hE hl0 hA hj hbx hrw c0 c1
      generalize flipN u = f at HFl HXo HLs
      gi_wp2_with fail
      refine ⟨trivial, ?_⟩
      refine (callsIn_wide.2 (HFl.out _)).mono ?_
      rintro e w3 ⟨rfl, rfl⟩
      have hxor := HXo.out
      generalize lastX vs = p at HLs hxor ⊢
      rw [← HLs.out] at hxor
      obtain ⟨y, hy⟩ : ∃ y, y = lastX (vs ++ [u]) := ⟨_, rfl⟩
      have HYy := Lib.hid hy
      rw [← hy] at hxor HSn
      clear hy HXo HLs
      gi_wp2_with fail
      refine ⟨trivial, ?_⟩
      refine (callsIn_wide.2 (from22 (y : Int) _)).mono ?_
      rintro e w4 ⟨rfl, rfl⟩
      rw [Int.toNat_natCast]
      obtain ⟨fn, tmps, assign, body, hy, hRd⟩ := HY.out (smpOf us vs) (x, y) w2 HJ2.out (by rw [HLn.out]; omega)
      simp only [smpV] at hy
      gi_wp2
      refine hRd.mono ?_
      rintro e W3 (⟨rfl, hJ3, hk3⟩ | ⟨rfl, hJx3⟩)
      · have HJ3 := Lib.hid hJ3
        rw [← HSn.out] at HJ3
        have HB3 := Lib.hid (hk3.boxed (by decide) (by decide) HB2.out)
        have HR3 := Lib.hid (hk3.rowT HR2.out)
        clear hJ3 hk3
        gi_wp2
        go_roundw
        case rel => exact ⟨vs ++ [u], E, by rw [HL0.out]; omega, by go_num, by rw [HYy.out], by rw [HL0.out]; go_num, HA2, HJ3, HB3, HR3⟩
        case measure => simp [intOf]; omega
      · gi_wp2
        refine bodyPost_ret (results_none rfl _ _ _) rfl ?_
        exact ⟨⟨_, rfl⟩, .inr ⟨_, trivial, hJx3⟩⟩
    · have HC := Lib.hid (col_all hA.out h60 (by omega))
      gi_wp2
      go_end0
      exact ⟨⟨_, rfl⟩, .inl ⟨_, HC.out, hj.out⟩⟩

theorem iter_stops (n : Nat) (hn : 1 ≤ n) (Bn : Nat) (s : ByteArray) (hs : s.size ≤ 1048576) (w : World) (hBn : Boxed w Bn 9 (.string s)) :
    SeqStopsK Fence.wide n Try.prog 111 #[.pointer (some ⟨Bn, 0, none⟩)] smpV KpT (Col s.data.toList) (fun _ => True) 60 w := fun l J Jx W hW hJ _ hY h0 =>
  iter108 n hn l Bn W.heap.size s hs J Jx hJ hY W (hBn.kept (gb_below hW (row := none)) (by simp)) h0
theorem in78 (s : ByteArray) (w : World) : Calls Try.prog 92 #[.string s] w fun e w' => e = .returned (.func (.func 111) #[] #[.pointer (some ⟨w.heap.size, 0, none⟩)]) ∧ w' = w.alloc (.cells #[.string s] 9) := by
  go_enter Try.func92, Try.ntmps92
  go_wp2
  go_ret
  exact ⟨rfl, rfl⟩
end Go.Proofs.Yteiefngamccapaa
