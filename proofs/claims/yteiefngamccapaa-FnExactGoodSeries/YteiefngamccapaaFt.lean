/- The reader at the front of a text once more, with the type of its row told; and what a loop over the samples of a text keeps. -/
import Derived.Test.YteiefngamccapaaRl
import Derived.RangeFuncBox
namespace Go.Proofs.Yteiefngamccapaa
open Go.RowKit Go.Deep

/-- A slice of n numbers f at the front of a block of type t. -/
def RowT (w : World) (bo : Option Addr) (n c : Nat) (f : Nat → Int) (t : TypeId) : Prop := n ≤ c ∧ (0 < n → ∃ g N, bo = some ⟨g, 0, none⟩ ∧ RF w g t N n f)
/-- A row that was known of a type is known of it where its block has not been turned into another. -/
theorem RowT.congr {w : World} {bo : Option Addr} {n c : Nat} {f f' : Nat → Int} {t : TypeId} (h : RowT w bo n c f t) (he : ∀ i, i < n → f i = f' i) : RowT w bo n c f' t :=
  ⟨h.1, fun hp => by obtain ⟨g, N, e, hr⟩ := h.2 hp; exact ⟨g, N, e, hr.congr he⟩⟩
theorem RowT.below {w w' : World} {bo : Option Addr} {n c : Nat} {f : Nat → Int} {t : TypeId} (h : RowT w bo n c f t) (hb : Below w.heap.size w w') : RowT w' bo n c f t :=
  ⟨h.1, fun hp => by obtain ⟨g, N, e, hr⟩ := h.2 hp; exact ⟨g, N, e, hr.below hb⟩⟩
theorem fromT (bo : Option Addr) (n c B : Nat) (f : Nat → Int) (t : TypeId) (hn : n ≤ 60) (w : World) (h : Row w bo n c f B) (hT : RowT w bo n c f t) :
    Calls Try.prog 129 #[.slice bo n c] w fun e w' => (∃ r, e = .returned r) ∧ (Row w' bo n c (sumF f 0 n) B ∧ RowT w' bo n c (sumF f 0 n) t) ∧ Below B w w' := by
  by_cases h2 : n ≤ 1
  · refine (from_small bo n c h2 w).mono ?_
    rintro e w' ⟨hr, rfl⟩
    have he : ∀ i, i < n → f i = sumF f 0 n i := fun i hi => by
      obtain rfl : i = 0 := by omega
      unfold sumF; rw [if_pos ⟨by omega, by omega⟩, Nat.sub_self, accF]
    exact ⟨hr, ⟨h.congr he, hT.congr he⟩, Below.refl _ _⟩
  · obtain ⟨hc, hr⟩ := h
    obtain ⟨g, N, rfl, hR⟩ := hT.2 (by omega)
    obtain ⟨g2, t2, N2, e2, hB, _⟩ := hr (by omega)
    injection e2 with e2
    injection e2 with e2
    subst e2
    refine (from54 g 0 n c N n B t f (by omega) hn (by omega) hB w hR).mono ?_
    rintro e w' ⟨hr, hR', hS⟩
    exact ⟨hr, ⟨⟨hc, fun _ => ⟨g, t, N, rfl, hB, hR'⟩⟩, ⟨hc, fun _ => ⟨g, N, rfl, hR'⟩⟩⟩, hS.1⟩
theorem tailT (bo : Option Addr) (n c B : Nat) (f : Nat → Int) (t : TypeId) (v : Value) (hn : n ≤ 60) (w : World) (h : Row w bo n c f B) (hT : RowT w bo n c f t) (ht : Tail bo n c v) :
    Calls Try.prog 129 #[v] w fun e w' => (∃ r, e = .returned r) ∧ (Row w' bo n c (sumF f 1 (n - 1)) B ∧ RowT w' bo n c (sumF f 1 (n - 1)) t) ∧ Below B w w' := by
  rcases ht with ⟨h1, bo', d, rfl⟩ | ⟨h2, g', rfl, rfl⟩
  · refine (from_small bo' 0 d (by omega) w).mono ?_
    rintro e w' ⟨hr, rfl⟩
    have he : ∀ i, i < n → f i = sumF f 1 (n - 1) i := fun i hi => by unfold sumF; rw [if_neg (by omega)]
    exact ⟨hr, ⟨h.congr he, hT.congr he⟩, Below.refl _ _⟩
  · obtain ⟨hc, hr⟩ := h
    obtain ⟨g, N, e, hR⟩ := hT.2 (by omega)
    injection e with e
    injection e with e
    subst e
    obtain ⟨g2, t2, N2, e2, hB, _⟩ := hr (by omega)
    injection e2 with e2
    injection e2 with e2
    subst e2
    by_cases h3 : n = 2
    · subst h3
      refine (from_small _ 1 _ (by omega) w).mono ?_
      rintro e w' ⟨hr', rfl⟩
      have he : ∀ i, i < 2 → f i = sumF f 1 (2 - 1) i := fun i hi => by
        unfold sumF
        by_cases e : 1 ≤ i ∧ i < 1 + (2 - 1)
        · rw [if_pos e]
          obtain rfl : i = 1 := by omega
          rw [Nat.sub_self, accF]
        · rw [if_neg e]
      exact ⟨hr', ⟨⟨hc, fun _ => ⟨g', t, N, rfl, hB, hR.congr he⟩⟩, ⟨hc, fun _ => ⟨g', N, rfl, hR.congr he⟩⟩⟩, Below.refl _ _⟩
    · refine (from54 g' 1 (n - 1) _ N n B t f (by omega) (by omega) (by omega) hB w hR).mono ?_
      rintro e w' ⟨hr', hR', hS⟩
      exact ⟨hr', ⟨⟨hc, fun _ => ⟨g', t, N, rfl, hB, hR'⟩⟩, ⟨hc, fun _ => ⟨g', N, rfl, hR'⟩⟩⟩, hS.1⟩
/-- What the reader at the front of a text answers. -/
def FrontT (D : List UInt8) (w : World) (e : Ending) (w' : World) : Prop :=
  ((e = .returned (.tuple #[.slice none 0 0, .int .i64 0, .bool false]) ∧ ∀ us, ¬ Fr D us) ∨
    (∃ (us : List Nat) (a : Nat) (bo : Option Addr) (c : Nat), At D us.length us a ∧ us.length ≤ 60 ∧ e = .returned (.tuple #[.slice bo us.length c, .int .i64 a, .bool true]) ∧ RowT w' bo us.length c (at0 (decode us)) 153)) ∧ Below w.heap.size w w'

set_option maxHeartbeats 4000000 in
set_option maxRecDepth 100000 in
theorem frontT71 (s : ByteArray) (hs : s.size ≤ 1048576) (w : World) : Calls Try.prog 112 #[.string s] w (FrontT s.data.toList w) := by
  have hlen : s.data.toList.length = s.size := rfl
  obtain ⟨D, hD⟩ : ∃ D, D = s.data.toList := ⟨_, rfl⟩
  have HR38 := Lib.hid (fun a ha W => read38 s a hs ha W)
  rw [← hD] at HR38 hlen ⊢
  clear hD
  go_enter Try.func112, Try.ntmps112
  go_wp2_with fail
  refine (HR38.out 0 (by omega) _).mono ?_
  rintro e w1 ⟨⟨hn, rfl⟩ | ⟨m, hm, rfl⟩, hb1⟩
  · have HN : Hid (∀ us, ¬ Fr D us) := Lib.hid (fr_first (D := D) (by simpa using hn))
    have HB1 := Lib.hid hb1
    clear hn hb1
    go_wp2
    go_ret3
    exact ⟨.inl ⟨rfl, HN.out⟩, HB1.out⟩
  rw [List.drop_zero] at hm
  have HB1 := Lib.hid hb1
  by_cases h60 : m ≤ 60
  case neg =>
    have HN : Hid (∀ us, ¬ Fr D us) := Lib.hid (fr_many hm (by omega))
    obtain ⟨p, hp⟩ : ∃ p : Nat, p = (putV m).length := ⟨_, rfl⟩
    rw [← hp]
    clear hb1 hm hp
    go_wp2
    go_ret3
    exact ⟨.inl ⟨rfl, HN.out⟩, HB1.out⟩
  have HAT := Lib.hid (at_first (readV_is hm))
  obtain ⟨p, hp⟩ : ∃ p : Nat, p = 0 + (putV m).length := ⟨_, rfl⟩
  rw [← hp]
  rw [Nat.zero_add] at hp
  rw [← hp] at HAT
  clear hb1 hm hp
  go_wp2
  go_loopw [6, 31] (fun ap i wr => ∃ (us : List Nat) (a : Nat), us.length ≤ m ∧ ap = .int .i64 a ∧ i = .int .i64 us.length ∧ Hid (At D m us a) ∧ Hid (RF wr w1.heap.size 153 60 60 (fun j => if j < us.length then zagL us j else 0)) ∧ Hid (Below w.heap.size w wr)) (fun _ i _ => m - (intOf i).toNat)
  case atStart => exact ⟨[], p, Nat.zero_le _, rfl, rfl, HAT, Lib.hid ((zero_block w1 _ rfl).congr fun i _ => by simp), Lib.hid (HB1.out.alloc HB1.out.size _)⟩
  case round =>
    obtain ⟨us, a, hle, rfl, rfl, hA, hR, hB⟩ := hrel
    have hal := at_le hA.out
    by_cases hlt : us.length < m
    · go_wp2_with fail
      refine (HR38.out a (by omega) _).mono ?_
      rintro e w2 ⟨⟨hn, rfl⟩ | ⟨u, hu, rfl⟩, hb2⟩
      · have HN : Hid (∀ us, ¬ Fr D us) := Lib.hid (fr_none hA.out hlt hn)
        have HB2 := Lib.hid (hB.out.trans (hb2.mono hB.out.size))
        clear hn hb2
        go_wp2
        go_ret3
        exact ⟨.inl ⟨rfl, HN.out⟩, HB2.out⟩
      have hst := readV_is hu
      have HA2 := Lib.hid (at_next hA.out hst)
      have hR2 := hR.out.below hb2
      have hto := hR2.cell (i := us.length) (by omega)
      have hfz := hR2.frozen us.length
      have HR2 := Lib.hid ((hR2.set us.length (zagI u)).congr (f' := fun j => if j < (us ++ [u]).length then zagL (us ++ [u]) j else 0) (fun j _ => put_zag us u j))
      have HZ := Lib.hid (fun W => zag21 u hst.1 W)
      have HB2 := Lib.hid ((hB.out.trans (hb2.mono hB.out.size)).setCell (p := ⟨w1.heap.size, us.length, none⟩) HB1.out.size (.int .i64 (zagI u)))
      have HL0 : Hid ((us ++ [u]).length = us.length + 1) := Lib.hid (by simp)
      obtain ⟨E, hE⟩ : ∃ E : Nat, E = a + (putV u).length := ⟨_, rfl⟩
      rw [← hE] at HA2 ⊢
      clear hu hb2 hst hE hR2 hA hR hB
      generalize zagI u = x at HZ HR2 HB2
      go_wp2_with fail
      refine (HZ.out _).mono ?_
      rintro e w3 ⟨rfl, rfl⟩
      go_wp2
      go_roundw
      case rel => exact ⟨us ++ [u], E, by rw [HL0.out]; omega, by go_num, by rw [HL0.out]; go_num, HA2, HR2, HB2⟩
      case measure => simp [intOf]; omega
    · have hm : us.length = m := by omega
      subst hm
      have HFit := Lib.hid hA.out.2.2
      have HW : Hid (Row wr (some ⟨w1.heap.size, 0, none⟩) us.length us.length (zagL us) w.heap.size) := Lib.hid ⟨Nat.le_refl _, fun _ => ⟨w1.heap.size, 153, 60, rfl, HB1.out.size, (hR.out.less h60).congr fun i hi => by rw [if_pos hi]⟩⟩
      have HWT : Hid (RowT wr (some ⟨w1.heap.size, 0, none⟩) us.length us.length (zagL us) 153) := Lib.hid ⟨Nat.le_refl _, fun _ => ⟨w1.heap.size, 60, rfl, (hR.out.less h60).congr fun i hi => by rw [if_pos hi]⟩⟩
      have HSum := Lib.hid (fun i hi => sum_la (us := us) HFit.out (i := i) hi)
      clear hR
      go_wp2_with fail
      refine (behindAll49 _ us.length us.length _ _ _ HW.out).mono ?_
      rintro e w4 ⟨⟨v4, rfl, ht⟩, rfl⟩
      have HTl := Lib.hid ht
      clear ht
      go_wp2_with fail
      refine (tailT _ us.length us.length _ _ 153 v4 h60 _ HW.out HWT.out HTl.out).mono ?_
      rintro e w5 ⟨⟨r5, rfl⟩, ⟨hR5, hT5⟩, hb5⟩
      have HR5 := Lib.hid hR5; have HT5 := Lib.hid hT5; have HB5 := Lib.hid (hB.out.trans hb5)
      clear hR5 hb5 hT5
      go_wp2_with fail
      refine (fromT _ us.length us.length _ _ 153 h60 _ HR5.out HT5.out).mono ?_
      rintro e w6 ⟨⟨r6, rfl⟩, ⟨_, hR6⟩, hb6⟩
      have HR6 := Lib.hid (hR6.congr HSum.out); have HB6 := Lib.hid (HB5.out.trans hb6)
      clear hR6 hb6
      go_wp2
      go_ret3
      exact ⟨.inr ⟨us, a, _, _, hA.out, h60, rfl, HR6.out⟩, HB6.out⟩

/-- What a round of the loop keeps: every block that is neither the list's variable nor a row of samples. -/
def KpT (W W' : World) : Prop := ∀ (g : Nat) (cs : Array Value) (t : TypeId), t ≠ 50 → t ≠ 42 → W.heap[g]? = some (.cells cs t) → W'.heap[g]? = some (.cells cs t)
theorem KpT.refl (W : World) : KpT W W := fun _ _ _ _ _ h => h
theorem KpT.trans {A B C : World} (h : KpT A B) (k : KpT B C) : KpT A C := fun g cs t h1 h2 h3 => k g cs t h1 h2 (h g cs t h1 h2 h3)
theorem KpT.put (W : World) (l : Nat) (o o' : Obj) (hl : W.heap[l]? = some o) (ho : o.isCells = false) : KpT W (W.putObj l o') := fun g cs t _ _ h => by
  rw [World.putObj_heap_other (fun e => ?_)]
  · exact h
  · subst e
    rw [hl] at h
    injection h with h
    rw [h] at ho
    cases ho
theorem KpT.boxed {W W' : World} {B : Nat} {t : TypeId} {v : Value} (h : KpT W W') (h1 : t ≠ 50) (h2 : t ≠ 42) (hb : Boxed W B t v) : Boxed W' B t v := h B _ t h1 h2 hb
theorem KpT.rowT {W W' : World} {bo : Option Addr} {n c : Nat} {f : Nat → Int} (h : KpT W W') (hr : RowT W bo n c f 153) : RowT W' bo n c f 153 :=
  ⟨hr.1, fun hp => by
    obtain ⟨g, N, e, hn, F, hF, C, hC, hz⟩ := hr.2 hp
    exact ⟨g, N, e, hn, F, hF, C, h g C 153 (by decide) (by decide) hC, hz⟩⟩
end Go.Proofs.Yteiefngamccapaa
