/- Contract of PutList in the program, over this seat's translation: the same bytes as the model's. -/
import Derived.Test.YteiefngamccapaaRp
import Derived.Test.YteiefngamccapaaBld
import Derived.Test.YteiefngamccapaaShelf
namespace Go.Proofs.Yteiefngamccapaa
open Go.RowKit Go.Deep

/-- A slice of n numbers f, in a block of its own from B on. -/
def Row (w : World) (bo : Option Addr) (n c : Nat) (f : Nat → Int) (B : Nat) : Prop := n ≤ c ∧ (0 < n → ∃ g t N, bo = some ⟨g, 0, none⟩ ∧ B ≤ g ∧ RF w g t N n f)
theorem Row.congr {w : World} {bo : Option Addr} {n c : Nat} {f f' : Nat → Int} {B : Nat} (h : Row w bo n c f B) (he : ∀ i, i < n → f i = f' i) : Row w bo n c f' B :=
  ⟨h.1, fun hp => by obtain ⟨g, t, N, e, hB, hr⟩ := h.2 hp; exact ⟨g, t, N, e, hB, hr.congr he⟩⟩
theorem Row.below {w w' : World} {bo : Option Addr} {n c : Nat} {f : Nat → Int} {B : Nat} (h : Row w bo n c f B) (hb : Below w.heap.size w w') : Row w' bo n c f B :=
  ⟨h.1, fun hp => by obtain ⟨g, t, N, e, hB, hr⟩ := h.2 hp; exact ⟨g, t, N, e, hB, hr.below hb⟩⟩
theorem Row.of_own {w : World} {B : Nat} {v : Value} {l : List Int} (h : w.ownsRow B 3 1 v l.length (l.map (Value.int .i64))) : ∃ bo c, v = .slice bo l.length c ∧ Row w bo l.length c (at0 l) B := by
  obtain ⟨_, ⟨rfl, hn⟩ | ⟨g, cap, cur, rfl, hge, hh, hle, _, hsz, htk⟩⟩ := h
  · exact ⟨none, 0, by rw [hn], by omega, fun hp => by omega⟩
  · refine ⟨_, cap, rfl, hle, fun hp => ⟨g, 3, cap, rfl, hge, hle, fun i => cur.getD i undef, fun i hi => ?_, ?_⟩⟩
    · have e : cur.toList[i]? = some (.int .i64 l[i]) := by
        have h2 : (cur.toList.take (l.length * 1))[i]? = cur.toList[i]? := by rw [List.getElem?_take, if_pos (by omega)]
        rw [← h2, htk]
        simp [hi]
      have e' : cur[i]? = some (.int .i64 l[i]) := by simpa using e
      rw [at0_get hi]
      simp [Array.getD_eq_getD_getElem?, e']
    · have hc : cur.size = cap := by omega
      subst hc
      exact ⟨cur, hh, rfl, fun i hi => by simp [Array.getD_eq_getD_getElem?, hi]⟩

def Tail (bo : Option Addr) (n c : Nat) (v : Value) : Prop := (n ≤ 1 ∧ ∃ bo' d, v = .slice bo' 0 d) ∨ (2 ≤ n ∧ ∃ g, bo = some ⟨g, 0, none⟩ ∧ v = .slice (some ⟨g, 1, none⟩) (n - 1) (c - 1))
theorem SetB.sub {B : Nat} {w w' : World} (h : SetB B w w') : Below B w w' := h.1

theorem stepsAll48 (bo : Option Addr) (n c B : Nat) (f : Nat → Int) (hn : n ≤ 60) (w : World) (h : Row w bo n c f B) :
    Calls Try.prog 122 #[.slice bo n c] w fun e w' => (∃ r, e = .returned r) ∧ Row w' bo n c (difF f 0 n 0) B ∧ Below B w w' := by
  by_cases h2 : n ≤ 1
  · refine (steps_small bo n c h2 w).mono ?_
    rintro e w' ⟨hr, rfl⟩
    exact ⟨hr, h.congr fun i hi => by unfold difF; rw [if_neg (by omega)], Below.refl _ _⟩
  · obtain ⟨hc, hr⟩ := h
    obtain ⟨g, t, N, rfl, hB, hR⟩ := hr (by omega)
    refine (steps48 g 0 n c N n B t f (by omega) hn (by omega) hB w hR).mono ?_
    rintro e w' ⟨hr, hR', hS⟩
    exact ⟨hr, ⟨hc, fun _ => ⟨g, t, N, rfl, hB, hR'⟩⟩, hS.1⟩
theorem behindAll49 (bo : Option Addr) (n c B : Nat) (f : Nat → Int) (w : World) (h : Row w bo n c f B) :
    Calls Try.prog 123 #[.slice bo n c] w fun e w' => (∃ v, e = .returned v ∧ Tail bo n c v) ∧ w' = w := by
  obtain ⟨hc, hr⟩ := h
  by_cases h2 : n ≤ 1
  · refine (behind_small bo n c h2 hc (fun hp => by obtain ⟨g, _, _, e, _⟩ := hr hp; exact ⟨_, e⟩) w).mono ?_
    rintro e w' ⟨⟨bo', d, rfl⟩, rfl⟩
    exact ⟨⟨_, rfl, .inl ⟨h2, _, _, rfl⟩⟩, rfl⟩
  · obtain ⟨g, t, N, rfl, hB, hR⟩ := hr (by omega)
    refine (behind49 g n c (by omega) hc w).mono ?_
    rintro e w' ⟨rfl, rfl⟩
    exact ⟨⟨_, rfl, .inr ⟨by omega, g, rfl, rfl⟩⟩, rfl⟩
theorem tail48 (bo : Option Addr) (n c B : Nat) (f : Nat → Int) (v : Value) (hn : n ≤ 60) (w : World) (h : Row w bo n c f B) (ht : Tail bo n c v) :
    Calls Try.prog 122 #[v] w fun e w' => (∃ r, e = .returned r) ∧ Row w' bo n c (difF f 1 (n - 1) 0) B ∧ Below B w w' := by
  rcases ht with ⟨h1, bo', d, rfl⟩ | ⟨h2, g', rfl, rfl⟩
  · refine (steps_small bo' 0 d (by omega) w).mono ?_
    rintro e w' ⟨hr, rfl⟩
    exact ⟨hr, h.congr fun i hi => by unfold difF; rw [if_neg (by omega)], Below.refl _ _⟩
  · obtain ⟨hc, hr⟩ := h
    obtain ⟨g, t, N, e, hB, hR⟩ := hr (by omega)
    injection e with e
    injection e with e
    subst e
    by_cases h3 : n = 2
    · subst h3
      refine (steps_small _ 1 _ (by omega) w).mono ?_
      rintro e w' ⟨hr', rfl⟩
      exact ⟨hr', ⟨hc, fun _ => ⟨g', t, N, rfl, hB, hR.congr fun i hi => by unfold difF; rw [if_neg (by omega)]⟩⟩, Below.refl _ _⟩
    · refine (steps48 g' 1 (n - 1) _ N n B t f (by omega) (by omega) (by omega) hB w hR).mono ?_
      rintro e w' ⟨hr', hR', hS⟩
      exact ⟨hr', ⟨hc, fun _ => ⟨g', t, N, rfl, hB, hR'⟩⟩, hS.1⟩
theorem fromAll54 (bo : Option Addr) (n c B : Nat) (f : Nat → Int) (hn : n ≤ 60) (w : World) (h : Row w bo n c f B) :
    Calls Try.prog 129 #[.slice bo n c] w fun e w' => (∃ r, e = .returned r) ∧ Row w' bo n c (sumF f 0 n) B ∧ Below B w w' := by
  by_cases h2 : n ≤ 1
  · refine (from_small bo n c h2 w).mono ?_
    rintro e w' ⟨hr, rfl⟩
    exact ⟨hr, h.congr fun i hi => by
      obtain rfl : i = 0 := by omega
      unfold sumF; rw [if_pos ⟨by omega, by omega⟩, Nat.sub_self, accF], Below.refl _ _⟩
  · obtain ⟨hc, hr⟩ := h
    obtain ⟨g, t, N, rfl, hB, hR⟩ := hr (by omega)
    refine (from54 g 0 n c N n B t f (by omega) hn (by omega) hB w hR).mono ?_
    rintro e w' ⟨hr, hR', hS⟩
    exact ⟨hr, ⟨hc, fun _ => ⟨g, t, N, rfl, hB, hR'⟩⟩, hS.1⟩
theorem tail54 (bo : Option Addr) (n c B : Nat) (f : Nat → Int) (v : Value) (hn : n ≤ 60) (w : World) (h : Row w bo n c f B) (ht : Tail bo n c v) :
    Calls Try.prog 129 #[v] w fun e w' => (∃ r, e = .returned r) ∧ Row w' bo n c (sumF f 1 (n - 1)) B ∧ Below B w w' := by
  rcases ht with ⟨h1, bo', d, rfl⟩ | ⟨h2, g', rfl, rfl⟩
  · refine (from_small bo' 0 d (by omega) w).mono ?_
    rintro e w' ⟨hr, rfl⟩
    exact ⟨hr, h.congr fun i hi => by unfold sumF; rw [if_neg (by omega)], Below.refl _ _⟩
  · obtain ⟨hc, hr⟩ := h
    obtain ⟨g, t, N, e, hB, hR⟩ := hr (by omega)
    injection e with e
    injection e with e
    subst e
    by_cases h3 : n = 2
    · subst h3
      refine (from_small _ 1 _ (by omega) w).mono ?_
      rintro e w' ⟨hr', rfl⟩
      exact ⟨hr', ⟨hc, fun _ => ⟨g', t, N, rfl, hB, hR.congr fun i hi => by
        unfold sumF
        by_cases e : 1 ≤ i ∧ i < 1 + (2 - 1)
        · rw [if_pos e]
          obtain rfl : i = 1 := by omega
          rw [Nat.sub_self, accF]
        · rw [if_neg e]⟩⟩, Below.refl _ _⟩
    · refine (from54 g' 1 (n - 1) _ N n B t f (by omega) (by omega) (by omega) hB w hR).mono ?_
      rintro e w' ⟨hr', hR', hS⟩
      exact ⟨hr', ⟨hc, fun _ => ⟨g', t, N, rfl, hB, hR'⟩⟩, hS.1⟩

theorem clone47 (ao : Option Addr) (c : Nat) (l : List Int) (hn : l.length ≤ 1048576) (w : World) (h : IRow w w.heap.size ao l) :
    Calls Try.prog 121 #[.slice ao l.length c] w fun e w' => (∃ v, e = .returned v ∧ w'.ownsRow w.heap.size 3 1 v l.length (l.map (Value.int .i64))) ∧ Below w.heap.size w w' := by
  cases ao with
  | none =>
    have h0 : l.length = 0 := by
      rcases Nat.eq_zero_or_pos l.length with h0 | h0
      · exact h0
      · obtain ⟨_, _, e, _⟩ := h.2 h0; cases e
    have hl : l = [] := List.eq_nil_of_length_eq_zero h0
    subst hl
    refine (Try.slices_Clone_int_nil 0 c w).mono ?_
    rintro e w' ⟨rfl, rfl⟩
    exact ⟨⟨_, rfl, World.ownsRow_nil _ _ _ _⟩, Below.refl _ _⟩
  | some a =>
    by_cases h0 : l.length = 0
    · have hl : l = [] := List.eq_nil_of_length_eq_zero h0
      subst hl
      refine (Try.slices_Clone_int_zero a c w).mono ?_
      rintro e w' ⟨v, rfl, ho, _, hb⟩
      exact ⟨⟨v, rfl, ho⟩, hb⟩
    · obtain ⟨b, off, e, hb, hc⟩ := h.2 (by omega)
      injection e with e
      subst e
      refine (Try.slices_Clone_int b off l.length c l w (Nat.le_refl _) (by omega) (fun j hj => by rw [hc j hj]; simp [List.getD, hj])).mono ?_
      rintro e w' ⟨v, rfl, ho, _, hb⟩
      rw [List.take_length] at ho
      exact ⟨⟨v, rfl, ho⟩, hb⟩

theorem dif_dd (l : List Int) (i : Nat) (hi : i < l.length) : difF (difF (at0 l) 0 l.length 0) 1 (l.length - 1) 0 i = dd (at0 l) i := by
  by_cases h0 : i = 0
  · subst h0
    rw [dd_zero]
    unfold difF
    rw [if_neg (by omega), if_neg (by omega)]
  · unfold dd ss
    rw [if_neg h0]
    by_cases h1 : i ≤ 1
    · obtain rfl : i = 1 := by omega
      rw [if_pos (by omega)]
      unfold difF
      rw [if_neg (by omega), if_pos ⟨by omega, by omega⟩, ← w64_eq, Int.sub_zero]
      exact (w64_id (w64_in _)).symm
    · rw [if_neg h1]
      have e1 : difF (at0 l) 0 l.length 0 i = w64 (at0 l i - at0 l (i - 1)) := by unfold difF; rw [if_pos ⟨by omega, by omega⟩, w64_eq]
      have e2 : difF (at0 l) 0 l.length 0 (i - 1) = w64 (at0 l (i - 1) - at0 l (i - 2)) := by unfold difF; rw [if_pos ⟨by omega, by omega⟩, w64_eq]; rfl
      generalize difF (at0 l) 0 l.length 0 = d at e1 e2
      unfold difF
      rw [if_pos ⟨by omega, by omega⟩, e1, e2, ← w64_eq]

theorem bld_below {B b : Nat} {p : Value} {bs : List Value} {w w' : World} (h : Lib.BuilderAt 134 5 B b p bs w) (hb : Below w.heap.size w w') : Lib.BuilderAt 134 5 B b p bs w' := by
  have hl := h.lt
  obtain ⟨hB, v, hk, ho, hne⟩ := h
  exact ⟨hB, v, by rw [hb.block b hl]; exact hk, own_below ho hb, hne⟩
theorem isb_below {B b : Nat} {bs : List Value} {w w' : World} (h : Lib.IsBuilder 134 5 B b bs w) (hb : Below w.heap.size w w') : Lib.IsBuilder 134 5 B b bs w' := by
  rcases h with h | h
  · exact .inl (bld_below h hb)
  · exact .inr (bld_below h hb)
theorem start_bytes (l : List Int) : [] ++ Lib.strCells (txtV l.length) = Lib.byteCells (encK l 0) := by rw [List.nil_append, encK_zero]; rfl
theorem next_bytes {l : List Int} {k n : Nat} (h : encK l (k + 1) = encK l k ++ putV n) : Lib.byteCells (encK l k) ++ Lib.strCells (txtV n) = Lib.byteCells (encK l (k + 1)) := by rw [h, Lib.byteCells_append]; rfl
theorem below_mono {B C : Nat} {w w' : World} (h : Below C w w') (hBC : B ≤ C) : Below B w w' := h.mono hBC
/-- What the loop keeps: the bytes told so far. -/
def BInv (w : World) (b : Nat) (l : List Int) (k : Nat) (wr : World) : Prop := Lib.BuilderAt 134 5 b b (.pointer (some ⟨b, 0, none⟩)) (Lib.byteCells (encK l k)) wr ∧ Below b w wr

set_option maxHeartbeats 4000000 in
set_option maxRecDepth 100000 in
theorem putl27 (ao : Option Addr) (cap : Nat) (l : List Int) (hn : l.length ≤ 1048576) (w : World) (h : IRow w w.heap.size ao l) :
    Calls Try.prog 105 #[.slice ao l.length cap] w fun e w' => e = .returned (.tuple #[.string (putF l), .bool (fitsL l)]) ∧ Below w.heap.size w w' := by
  have H := Lib.hid h
  clear h
  by_cases h60 : l.length ≤ 60
  case neg =>
    have hf : fitsL l = false := by unfold fitsL; simp; omega
    have HF := Lib.hid hf
    have HP := Lib.hid (putF_no hf)
    clear hf
    go_enter Try.func105, Try.ntmps105
    go_wp2
    go_ret2
    exact ⟨ret_strb HP.out.symm HF.out.symm, Below.refl _ _⟩
  go_enter Try.func105, Try.ntmps105
  go_wp2_with fail
  refine (clone47 ao cap l hn _ H.out).mono ?_
  rintro e w1 ⟨⟨v, rfl, ho⟩, hb1⟩
  obtain ⟨bo, c, rfl, hR⟩ := Row.of_own ho
  have HR := Lib.hid hR; have HB1 := Lib.hid hb1
  clear ho hR hb1
  go_wp2_with fail
  refine (stepsAll48 bo l.length c _ _ h60 _ HR.out).mono ?_
  rintro e w2 ⟨⟨r2, rfl⟩, hR2, hb2⟩
  have HR2 := Lib.hid hR2; have HB2 := Lib.hid (HB1.out.trans hb2)
  clear hR2 hb2
  go_wp2_with fail
  refine (behindAll49 bo l.length c _ _ _ HR2.out).mono ?_
  rintro e w3 ⟨⟨v3, rfl, ht⟩, rfl⟩
  have HT := Lib.hid ht
  clear ht
  go_wp2_with fail
  refine (tail48 bo l.length c _ _ v3 h60 _ HR2.out HT.out).mono ?_
  rintro e w4 ⟨⟨r4, rfl⟩, hR4, hb4⟩
  have HR4 := Lib.hid (hR4.congr fun i hi => dif_dd l i hi); have HB4 := Lib.hid (HB2.out.trans hb4)
  clear hR4 hb4 HT
  have HIn := Lib.hid (fun i => dd_in (at0_in H.out.1 0) i)
  have HLen := Lib.hid (fun k => encK_len H.out.1 hn k)
  have HSucc := Lib.hid (fun k (hk : k < l.length) => encK_succ (l := l) hk)
  have HF0 := Lib.hid (Lib.fresh_isBuilder 134 5 w4)
  have HBa := Lib.hid ((Below.refl w4.heap.size w4).alloc (Nat.le_refl _) (.cells #[.pointer none, .slice none 0 0] 134))
  clear HR HR2 HB1 HB2 H
  go_wp2_with fail
  refine (put14 l.length (by omega) _).mono ?_
  rintro e w5 ⟨rfl, hb5⟩
  have HF5 := Lib.hid (isb_below HF0.out hb5)
  have HB5 := Lib.hid (HBa.out.trans (hb5.mono HBa.out.size))
  have hz := putV_ten (n := l.length) (by omega)
  rw [← txtV_size] at hz
  have HS0 := Lib.hid (start_bytes l)
  clear hb5 HF0 HBa
  go_wp2_with fail
  refine (write50 w4.heap.size w4.heap.size [] (txtV l.length) _ HF5.out (by simp only [List.length_nil]; omega) HB5.out.size).mono ?_
  rintro e w6 ⟨⟨r6, rfl⟩, hA6, hb6⟩
  rw [HS0.out] at hA6
  have HI : Hid (BInv w4 w4.heap.size l 0 w6) := Lib.hid ⟨hA6, HB5.out.trans hb6⟩
  clear hA6 hb6 HF5 HB5 HS0 hz
  go_wp2_with fail
  go_loopw [25] (fun i wr => ∃ k : Nat, k ≤ l.length ∧ i = .int .i64 k ∧ Hid (BInv w4 w4.heap.size l k wr)) (fun i _ => l.length - (intOf i).toNat)
  case atStart => exact ⟨0, Nat.zero_le _, rfl, HI⟩
  case round =>
    obtain ⟨k, hk, rfl, hI⟩ := hrel
    by_cases hlt : k < l.length
    · obtain ⟨g, t, N, hbo, _, hR⟩ := HR4.out.2 (by omega)
      subst hbo
      have c0 := (hI.out.2.cell (p := ⟨g, k, none⟩) hR.lt).trans (hR.cell hlt)
      have hlen := HLen.out k
      have HE := Lib.hid (next_bytes (HSucc.out k hlt))
      have HD := Lib.hid (HIn.out k)
      clear hR
      generalize dd (at0 l) k = x at c0 HE HD
      go_wp2_with fail
      refine (zig18 x HD.out _).mono ?_
      rintro e w7 ⟨rfl, rfl⟩
      go_wp2_with fail
      refine (put14 (zigN x) (zig_lt HD.out) _).mono ?_
      rintro e w8 ⟨rfl, hb8⟩
      have hz := putV_ten (zig_lt HD.out)
      rw [← txtV_size] at hz
      have HA8 := Lib.hid (bld_below hI.out.1 hb8)
      have HB8 := Lib.hid (hI.out.2.trans (hb8.mono hI.out.2.size))
      clear hb8
      go_wp2_with fail
      refine (write50 w4.heap.size w4.heap.size (Lib.byteCells (encK l k)) (txtV (zigN x)) _ (.inr HA8.out) (by rw [Lib.byteCells_length]; omega) HB8.out.size).mono ?_
      rintro e w9 ⟨⟨r9, rfl⟩, hA9, hb9⟩
      rw [HE.out] at hA9
      have HI9 : Hid (BInv w4 w4.heap.size l (k + 1) w9) := Lib.hid ⟨hA9, HB8.out.trans hb9⟩
      clear hA9 hb9 HA8 HB8
      go_wp2
      go_roundw
      case rel => exact ⟨k + 1, by omega, by go_num, HI9⟩
      case measure => simp [intOf]; omega
    · obtain rfl : k = l.length := by omega
      obtain ⟨hA, hb⟩ := hI.out
      rw [encK_all] at hA
      have HA := Lib.hid hA
      have HB := Lib.hid (HB4.out.trans (hb.mono HB4.out.size))
      have hsz := hb.size
      have hL := Lib.hid (show (Lib.byteCells (enc l)).length = (strE l).size by rw [Lib.byteCells_length]; simp [strE, ByteArray.size])
      clear hA hb hI
      go_wp2_with fail
      refine (Try.Builder_Len w4.heap.size w4.heap.size _ _ (.inr HA.out)).mono ?_
      rintro e w7 ⟨rfl, rfl⟩
      rw [hL.out]
      by_cases h400 : (strE l).size ≤ 400
      · have hf : fitsL l = true := by unfold fitsL; simp; omega
        have HF := Lib.hid hf
        have HP := Lib.hid (putF_yes hf)
        clear hf
        have HC := Lib.hid (Try.Builder_String_any w4.heap.size w4.heap.size (enc l) _ (.inr HA.out) hsz)
        have he : (⟨(enc l).toArray⟩ : ByteArray) = strE l := rfl
        rw [he] at HC
        clear he HA hL
        generalize strE l = t at h400 HP HC
        go_wp2_with fail
        refine HC.out.mono ?_
        rintro e w8 ⟨rfl, hb8⟩
        have HB8 := Lib.hid (HB.out.trans (hb8.mono HB4.out.size))
        clear hb8
        go_wp2
        go_ret2
        exact ⟨ret_strb HP.out.symm HF.out.symm, HB8.out⟩
      · have hf : fitsL l = false := by unfold fitsL; simp; omega
        have HF := Lib.hid hf
        have HP := Lib.hid (putF_no hf)
        clear hf hL
        generalize strE l = t at h400
        go_wp2
        go_ret2
        exact ⟨ret_strb HP.out.symm HF.out.symm, HB.out⟩
end Go.Proofs.Yteiefngamccapaa
