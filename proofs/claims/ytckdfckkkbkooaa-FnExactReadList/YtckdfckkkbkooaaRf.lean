/- What ReadList answers, as one list and one bool for both sides, and marks laid into a list. -/
import Derived.Test.YtckdfckkkbkooaaRl
namespace Go.Proofs.Ytckdfckkkbkooaa
open Go.RowKit Go.Deep

open Classical in
noncomputable def rlB (s : ByteArray) : Bool := if ∃ us, TR s us then true else false
open Classical in
noncomputable def rlX (s : ByteArray) : List Int := if h : ∃ us, TR s us then decode h.choose else []
theorem rl_no {s : ByteArray} (h : ∀ us, ¬ TR s us) : rlB s = false ∧ rlX s = [] := by
  have h' : ¬ ∃ us, TR s us := fun ⟨us, hu⟩ => h us hu
  unfold rlB rlX
  rw [if_neg h', dif_neg h']
  exact ⟨rfl, rfl⟩
theorem rl_yes {s : ByteArray} {us : List Nat} (h : TR s us) : rlB s = true ∧ rlX s = decode us := by
  have h' : ∃ us, TR s us := ⟨us, h⟩
  unfold rlB rlX
  rw [if_pos h', dif_pos h']
  exact ⟨rfl, by rw [Told.one h'.choose_spec.2 h.2]⟩
theorem rlX_in (s : ByteArray) : (∀ x ∈ rlX s, In64 x) ∧ (rlX s).length ≤ 60 := by
  by_cases h : ∃ us, TR s us
  · obtain ⟨us, hu⟩ := h
    rw [(rl_yes hu).2, decode_len]
    exact ⟨decode_in hu.2.2.2, hu.2.2.1⟩
  · rw [(rl_no fun us hu => h ⟨us, hu⟩).2]
    exact ⟨fun x hx => by simp at hx, by simp⟩
/-- What both readers answer. -/
def RlF (s : ByteArray) (w : World) (e : Ending) (w' : World) : Prop :=
  (∃ (bo : Option Addr) (c : Nat), e = .returned (.tuple #[.slice bo (rlX s).length c, .bool (rlB s)]) ∧ Row w' bo (rlX s).length c (at0 (rlX s)) w.heap.size) ∧ Below w.heap.size w w'
theorem rlF_of {s : ByteArray} {w w' : World} {e : Ending} (h : RlEnd s w e w') : RlF s w e w' := by
  obtain ⟨⟨rfl, hn⟩ | ⟨us, bo, c, ht, rfl, hR⟩, hb⟩ := h
  · obtain ⟨h1, h2⟩ := rl_no hn
    refine ⟨⟨none, 0, by rw [h1, h2]; rfl, ?_⟩, hb⟩
    rw [h2]
    exact ⟨Nat.le_refl _, fun hp => by simp at hp⟩
  · obtain ⟨h1, h2⟩ := rl_yes ht
    refine ⟨⟨bo, c, by rw [h1, h2, decode_len], ?_⟩, hb⟩
    rw [h2, decode_len]
    exact hR
theorem rlf32 (s : ByteArray) (hs : s.size ≤ 1048576) (w : World) : Calls Try.prog 21 #[.string s] w (RlF s w) := (rl32 s hs w).mono fun _ _ h => rlF_of h
theorem rlf29 (s : ByteArray) (hs : s.size ≤ 1048576) (w : World) : Calls Try.prog 18 #[.string s] w (RlF s w) := (rl29 s hs w).mono fun _ _ h => rlF_of h

theorem Row.irow {w : World} {bo : Option Addr} {c B : Nat} {xs : List Int} (h : Row w bo xs.length c (at0 xs) B) (hx : ∀ x ∈ xs, In64 x) : IRow w w.heap.size bo xs :=
  ⟨hx, fun hp => by
    obtain ⟨g, t, N, rfl, _, hR⟩ := h.2 hp
    exact (hR.irow hx).2 hp⟩
theorem IRow.keep {w w' : World} {B : Nat} {ao : Option Addr} {xs : List Int} (h : IRow w B ao xs) (hb : Below B w w') : IRow w' B ao xs :=
  ⟨h.1, fun hp => by
    obtain ⟨b, off, e, hl, hc⟩ := h.2 hp
    exact ⟨b, off, e, hl, fun i hi => (hb.cell (p := ⟨b, off + i, none⟩) hl).trans (hc i hi)⟩⟩
theorem IRow.more {w : World} {B C : Nat} {ao : Option Addr} {xs : List Int} (h : IRow w B ao xs) (hBC : B ≤ C) : IRow w C ao xs :=
  ⟨h.1, fun hp => by
    obtain ⟨b, off, e, hl, hc⟩ := h.2 hp
    exact ⟨b, off, e, by omega, hc⟩⟩
theorem markAll (bo : Option Addr) (n c B k : Nat) (f : Nat → Int) (hn : n ≤ 1048576) (hk : k ≤ 1048576) (w : World) (h : Row w bo n c f B) :
    Calls Try.prog 48 #[.slice bo n c, .int .i64 k] w fun e w' => e = .returned (.int .i64 ((k + n : Nat) : Int)) ∧ Row w' bo n c (fun i => ((k + i : Nat) : Int)) B ∧ Below B w w' := by
  by_cases h0 : n = 0
  · subst h0
    refine (mark0 bo c k w).mono ?_
    rintro e w' ⟨rfl, rfl⟩
    exact ⟨rfl, ⟨h.1, fun hp => by omega⟩, Below.refl _ _⟩
  · obtain ⟨hc, hr⟩ := h
    obtain ⟨g, t, N, rfl, hB, hR⟩ := hr (by omega)
    refine (mark35 g n c N B k t f hn hk hB w hR).mono ?_
    rintro e w' ⟨rfl, hR', hb⟩
    exact ⟨rfl, ⟨hc, fun _ => ⟨g, t, N, rfl, hB, hR'⟩⟩, hb⟩
theorem heldAll (bo : Option Addr) (n c B k : Nat) (hn : n ≤ 1048576) (hk : k ≤ 1048576) (w : World) (h : Row w bo n c (fun i => ((k + i : Nat) : Int)) B) :
    Calls Try.prog 49 #[.slice bo n c, .int .i64 k] w fun e w' => e = .returned (.int .i64 ((k + n : Nat) : Int)) ∧ w' = w :=
  held36 bo n c k hn hk w fun hp => by
    obtain ⟨g, t, N, rfl, _, hR⟩ := h.2 hp
    exact ⟨g, 0, rfl, fun i hi => by rw [Nat.zero_add]; exact hR.cell hi⟩

set_option maxHeartbeats 4000000 in
set_option maxRecDepth 100000 in
theorem walk_fnExactReadList (w : World) (s : ByteArray) (hs : s.size ≤ maxLen) : Calls Try.prog 5 #[.string s] w fun e w' => e = .returned (.bool true) ∧ Below w.heap.size w w' := by
  unfold maxLen at hs
  by_cases hbig : 1048576 < s.size
  · go_enter Try.func5, Try.ntmps5
    go_wp2
    go_ret
    exact ⟨rfl, Below.refl _ _⟩
  have hs1 : s.size ≤ 1048576 := by omega
  have R32 := Lib.hid (rlf32 s hs1)
  have R29 := Lib.hid (rlf29 s hs1)
  obtain ⟨hxin, hx60⟩ := rlX_in s
  unfold RlF at R32 R29
  generalize rlX s = xs at R32 R29 hxin hx60
  generalize rlB s = r at R32 R29
  have HX := Lib.hid hxin
  have hrr : (r != r) = false := by cases r <;> rfl
  clear hxin
  go_enter Try.func5, Try.ntmps5
  go_wp2_with fail
  refine (R32.out w).mono ?_
  rintro e w1 ⟨⟨so, sc, rfl, hR1⟩, hb1⟩
  have HS1 := Lib.hid (hR1.irow HX.out); have HB1 := Lib.hid hb1
  clear hR1 hb1
  go_wp2_with fail
  refine (R29.out w1).mono ?_
  rintro e w2 ⟨⟨go, gc, rfl, hR2⟩, hb2⟩
  have HR2 := Lib.hid hR2; have HG2 := Lib.hid (hR2.irow HX.out)
  have HS2 := Lib.hid (HS1.out.keep hb2); have HC2 := Lib.hid hb2
  clear hR2 hb2
  go_wp2_with fail
  refine (eq34 go so gc sc xs (by omega) w2 HG2.out (HS2.out.more HC2.out.size)).mono ?_
  rintro e w3 ⟨rfl, hb3⟩
  have HR3 := Lib.hid (HR2.out.below hb3)
  have HC3 := Lib.hid (HC2.out.trans (hb3.mono HC2.out.size))
  clear hb3 HR2 HG2 HS2 HC2
  go_wp2_with fail
  refine (markAll go xs.length gc w1.heap.size 1 _ (by omega) (by omega) w3 HR3.out).mono ?_
  rintro e w4 ⟨rfl, hR4, hb4⟩
  have HR4 := Lib.hid hR4
  have HC4 := Lib.hid (HC3.out.trans hb4)
  clear hR4 hb4 HR3 HC3
  go_wp2_with fail
  refine (heldAll go xs.length gc w1.heap.size 1 (by omega) (by omega) w4 HR4.out).mono ?_
  rintro e w5 ⟨rfl, rfl⟩
  go_wp2_with fail
  refine (R29.out _).mono ?_
  rintro e w6 ⟨⟨ho, hc, rfl, hR6⟩, hb6⟩
  have HG6 := Lib.hid (hR6.irow HX.out)
  have HR6 := Lib.hid (HR4.out.below hb6)
  have HC6 := Lib.hid (HC4.out.trans (hb6.mono HC4.out.size))
  clear hR6 hb6 HR4 HC4
  have HS6 := Lib.hid ((HS1.out.keep HC6.out).more HC6.out.size)
  go_wp2_with fail
  refine (eq34 ho so hc sc xs (by omega) w6 HG6.out HS6.out).mono ?_
  rintro e w7 ⟨rfl, hb7⟩
  have HR7 := Lib.hid (HR6.out.below hb7)
  have HC7 := Lib.hid (HC6.out.trans (hb7.mono HC6.out.size))
  clear hb7 HR6 HC6 HG6 HS6
  go_wp2_with fail
  refine (heldAll go xs.length gc w1.heap.size 1 (by omega) (by omega) w7 HR7.out).mono ?_
  rintro e w8 ⟨rfl, rfl⟩
  have HB := Lib.hid (HB1.out.trans (HC7.out.mono HB1.out.size))
  go_wp2
  go_ret
  exact ⟨rfl, HB.out⟩
end Go.Proofs.Ytckdfckkkbkooaa
