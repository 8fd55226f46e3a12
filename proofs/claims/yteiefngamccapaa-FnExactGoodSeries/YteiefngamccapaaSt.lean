/- Contracts of the exact laws' helpers on series, over this seat's translation: the size, the copy, the comparison. -/
import Derived.Test.YteiefngamccapaaCr
import Derived.Test.YteiefngamccapaaJx23
namespace Go.Proofs.Yteiefngamccapaa
open Go.RowKit Go.Deep

set_option maxHeartbeats 2000000 in
theorem szSer (ao : Option Addr) (cap : Nat) (l : List Chk) (fl : Int) (hn : l.length ≤ maxLen) (hm : FitC l maxLen) (left : Int) (h0 : 0 ≤ left) (h1 : left ≤ 1048576) (w : World) (h : CRow w w.heap.size ao l) :
    Calls Try.prog 12 #[.agg #[.slice ao l.length cap, .int .i64 fl], .int .i64 left] w fun e w' => (∃ r : Int, e = .returned (.int .i64 r) ∧ r ≤ left ∧ (r = -1 ∨ (0 ≤ r ∧ l.length ≤ 1048576 ∧ FitC l 1048576))) ∧ Below w.heap.size w w' := by
  have HB0 := Lib.hid ((Below.refl w.heap.size w).alloc (Nat.le_refl _) (.cells #[.slice ao l.length cap, .int .i64 fl] 24))
  have HR := Lib.hid (GR.after h HB0.out)
  clear h
  go_enter Try.func12, Try.ntmps12
  go_wp2_with fail
  refine (szCs ao cap l hn hm left h0 h1 _ HR.out).mono ?_
  rintro e w1 ⟨⟨r, rfl, hr, hor⟩, hb1⟩
  have HB1 := Lib.hid (HB0.out.trans (hb1.mono HB0.out.size))
  have HO := Lib.hid hor
  clear hb1
  rcases hor with rfl | ⟨h, _⟩
  · go_wp2
    go_ret
    exact ⟨⟨-1, rfl, hr, .inl rfl⟩, HB1.out⟩
  · go_wp2
    go_ret
    exact ⟨⟨r, rfl, hr, HO.out⟩, HB1.out⟩

/-- What a copy of a series comes to. -/
def MadeS (base : Nat) (l : List Chk) (fl : Int) (w : World) (e : Ending) (w' : World) : Prop :=
  ∃ v, e = .returned (.agg #[v, .int .i64 fl]) ∧ w'.ownsRow base 85 4 v l.length (cellsG cC l) ∧ Below w.heap.size w w'
theorem made_ser {w w' : World} {base : Nat} {l : List Chk} {fl : Int} {e : Ending} (h : MadeS base l fl w e w') : ∃ ao c, e = .returned (.agg #[.slice ao l.length c, .int .i64 fl]) ∧ w'.ownsRow base 85 4 (.slice ao l.length c) l.length (cellsG cC l) ∧ CRow w' w'.heap.size ao l ∧ Below w.heap.size w w' := by
  obtain ⟨v, rfl, ho, hb⟩ := h
  obtain ⟨ao, c, rfl⟩ := own_slice ho
  exact ⟨ao, c, rfl, ho, GR.of_own cC_len ho, hb⟩

set_option maxHeartbeats 2000000 in
set_option maxRecDepth 100000 in
theorem toSer (ao : Option Addr) (cap : Nat) (l : List Chk) (fl : Int) (hn : l.length ≤ 1048576) (w : World) (h : CRow w w.heap.size ao l) :
    Calls Try.prog 14 #[.agg #[.slice ao l.length cap, .int .i64 fl]] w (MadeS w.heap.size l fl w) := by
  have HB0 := Lib.hid ((((Below.refl w.heap.size w).alloc (Nat.le_refl _) (.cells #[.slice ao l.length cap, .int .i64 fl] 24)).alloc (by simp) (.cells #[.slice none 0 0, .int .i64 0] 29)).alloc (by simp; omega) (.cells #[.slice none 0 0, .int .i64 0] 29))
  have HX0 := Lib.hid (((Bt.new w (.slice ao l.length cap) (.int .i64 fl) 24).alloc (.cells #[.slice none 0 0, .int .i64 0] 29)).alloc (.cells #[.slice none 0 0, .int .i64 0] 29))
  have HY0 := Lib.hid ((Bt.new (w.alloc (.cells #[.slice ao l.length cap, .int .i64 fl] 24)) (.slice none 0 0) (.int .i64 0) 29).alloc (.cells #[.slice none 0 0, .int .i64 0] 29))
  have HZ0 := Lib.hid (Bt.new ((w.alloc (.cells #[.slice ao l.length cap, .int .i64 fl] 24)).alloc (.cells #[.slice none 0 0, .int .i64 0] 29)) (.slice none 0 0) (.int .i64 0) 29)
  simp only [World.size_alloc] at HY0 HZ0
  have HR := Lib.hid (GR.after h HB0.out)
  clear h
  go_enter Try.func14, Try.ntmps14
  go_wp2_with fail
  refine (toCs ao cap l hn _ HR.out).mono ?_
  rintro e w1 h1
  obtain ⟨o1, k1, rfl, hO1, _, hb1⟩ := made_crow h1
  simp only [World.size_alloc] at hO1
  have HO1 := Lib.hid hO1
  have HB1 := Lib.hid (HB0.out.trans (hb1.mono HB0.out.size))
  obtain ⟨x0, x1, _⟩ := (HX0.out.below hb1).cells
  obtain ⟨y0, y1, fy0, fy1⟩ := (HY0.out.below hb1).cells
  obtain ⟨z0, z1, fz0, fz1⟩ := (HZ0.out.below hb1).cells
  clear hb1 h1 hO1
  go_wp2
  refine bodyPost_ret (v := .agg #[.slice o1 l.length k1, .int .i64 fl]) (by simp [results, Try.results14, go_sem, y0, y1]) rfl ⟨_, rfl, ?_, ?_⟩
  · exact own_lower (own_set (own_set (own_set (own_set HO1.out (by omega)) (by omega)) (by omega)) (by omega)) (by omega)
  · exact (((HB1.out.setCell (by dsimp only; omega) _).setCell (by dsimp only; omega) _).setCell (by dsimp only; omega) _).setCell (by dsimp only; omega) _

set_option maxHeartbeats 2000000 in
set_option maxRecDepth 100000 in
theorem eqSer (ao bo : Option Addr) (c d : Nat) (l : List Chk) (fl : Int) (hn : l.length ≤ 1048576) (w : World) (ha : CRow w w.heap.size ao l) (hb : CRow w w.heap.size bo l) :
    Calls Try.prog 16 #[.agg #[.slice ao l.length c, .int .i64 fl], .agg #[.slice bo l.length d, .int .i64 fl]] w fun e w' => e = .returned (.bool true) ∧ Below w.heap.size w w' := by
  have HB0 := Lib.hid (((Below.refl w.heap.size w).alloc (Nat.le_refl _) (.cells #[.slice ao l.length c, .int .i64 fl] 29)).alloc (by simp) (.cells #[.slice bo l.length d, .int .i64 fl] 29))
  have HX0 := Lib.hid ((Bt.new w (.slice ao l.length c) (.int .i64 fl) 29).alloc (.cells #[.slice bo l.length d, .int .i64 fl] 29))
  have HY0 := Lib.hid (Bt.new (w.alloc (.cells #[.slice ao l.length c, .int .i64 fl] 29)) (.slice bo l.length d) (.int .i64 fl) 29)
  simp only [World.size_alloc] at HY0
  have HA := Lib.hid (GR.after ha HB0.out)
  have HC := Lib.hid (GR.after hb HB0.out)
  clear ha hb
  go_enter Try.func16, Try.ntmps16
  go_wp2_with fail
  refine (eqCs ao bo c d l hn _ HA.out HC.out).mono ?_
  rintro e w1 ⟨rfl, hb1⟩
  have HB1 := Lib.hid (HB0.out.trans (hb1.mono HB0.out.size))
  obtain ⟨x0, x1, _⟩ := (HX0.out.below hb1).cells
  obtain ⟨y0, y1, _⟩ := (HY0.out.below hb1).cells
  clear hb1
  go_wp2
  go_ret
  exact ⟨rfl, HB1.out⟩
end Go.Proofs.Yteiefngamccapaa
