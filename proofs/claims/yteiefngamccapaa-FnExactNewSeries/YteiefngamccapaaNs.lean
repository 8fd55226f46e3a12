/- Contracts of NewSeries, in the program and in the model, of the marks on a series without chunks, and the walk of the law FnExactNewSeries, over this seat's translation. -/
import Derived.Test.YteiefngamccapaaSt
import Derived.Test.YteiefngamccapaaGs
namespace Go.Proofs.Yteiefngamccapaa
open Go.RowKit Go.Deep

def nsB (t : Int) : Bool := decide (-1000000 ≤ t) && decide (t ≤ 1000000)
def nsF (t : Int) : Int := if nsB t = true then t else 0
def NsEnd (t : Int) (w : World) (e : Ending) (w' : World) : Prop := e = .returned (.tuple #[.agg #[.slice none 0 0, .int .i64 (nsF t)], .bool (nsB t)]) ∧ Below w.heap.size w w'
theorem ns_no {t : Int} (h : nsB t = false) : Ending.returned (.tuple #[.agg #[.slice none 0 0, .int .i64 0], .bool false]) = .returned (.tuple #[.agg #[.slice none 0 0, .int .i64 (nsF t)], .bool (nsB t)]) := by
  unfold nsF; rw [h, if_neg (by decide)]
theorem ns_yes {t : Int} (h : nsB t = true) : Ending.returned (.tuple #[.agg #[.slice none 0 0, .int .i64 t], .bool true]) = .returned (.tuple #[.agg #[.slice none 0 0, .int .i64 (nsF t)], .bool (nsB t)]) := by
  unfold nsF; rw [h, if_pos rfl]

set_option maxRecDepth 100000 in
theorem newI (t : Int) (w : World) : Calls Try.prog 18 #[.int .i64 t] w (NsEnd t w) := by
  unfold NsEnd
  by_cases hb : nsB t = true
  · have HY := Lib.hid (ns_yes hb)
    have HI := Lib.hid (fun W => in87 t true hb W)
    clear hb
    go_enter Try.func18, Try.ntmps18
    go_wp2_with fail
    refine (HI.out _).mono ?_
    rintro e w1 ⟨rfl, rfl⟩
    go_wp2
    exact bodyPost_ret (v := .tuple #[.agg #[.slice none 0 0, .int .i64 t], .bool true]) (by simp [results, Try.results18, go_sem]) rfl ⟨HY.out, (Below.refl _ _).alloc (Nat.le_refl _) _⟩
  · have hb : nsB t = false := by simpa using hb
    have HY := Lib.hid (ns_no hb)
    have HI := Lib.hid (fun W => in87 t false hb W)
    clear hb
    go_enter Try.func18, Try.ntmps18
    go_wp2_with fail
    refine (HI.out _).mono ?_
    rintro e w1 ⟨rfl, rfl⟩
    go_wp2
    exact bodyPost_ret (v := .tuple #[.agg #[.slice none 0 0, .int .i64 0], .bool false]) (by simp [results, Try.results18, go_sem]) rfl ⟨HY.out, (Below.refl _ _).alloc (Nat.le_refl _) _⟩

set_option maxRecDepth 100000 in
theorem newS (t : Int) (w : World) : Calls Try.prog 17 #[.int .i64 t] w (NsEnd t w) := by
  unfold NsEnd
  have HI := Lib.hid (fun W => in105 t (-1000000) 1000000 W)
  by_cases hb : nsB t = true
  · have HY := Lib.hid (ns_yes hb)
    unfold nsB at hb
    rw [hb] at HI
    clear hb
    go_enter Try.func17, Try.ntmps17
    go_wp2_with fail
    refine (HI.out _).mono ?_
    rintro e w1 ⟨rfl, rfl⟩
    go_wp2
    exact bodyPost_ret (v := .tuple #[.agg #[.slice none 0 0, .int .i64 t], .bool true]) (by simp [results, Try.results17, go_sem]) rfl ⟨HY.out, (Below.refl _ _).alloc (Nat.le_refl _) _⟩
  · have hb : nsB t = false := by simpa using hb
    have HY := Lib.hid (ns_no hb)
    unfold nsB at hb
    rw [hb] at HI
    clear hb
    go_enter Try.func17, Try.ntmps17
    go_wp2_with fail
    refine (HI.out _).mono ?_
    rintro e w1 ⟨rfl, rfl⟩
    go_wp2
    exact bodyPost_ret (v := .tuple #[.agg #[.slice none 0 0, .int .i64 0], .bool false]) (by simp [results, Try.results17, go_sem]) rfl ⟨HY.out, (Below.refl _ _).alloc (Nat.le_refl _) _⟩

theorem markC0 (k : Int) (w : World) : Calls Try.prog 54 #[.slice none 0 0, .int .i64 k] w fun e w' => e = .returned (.int .i64 k) ∧ w' = w := by
  go_enter Try.func54, Try.ntmps54
  go_wp2
  refine wp_loop_rounds 1 ?_
  rw [rounds_succ]
  go_wp2
  go_ret
  exact ⟨rfl, rfl⟩
theorem heldC0 (k : Int) (w : World) : Calls Try.prog 55 #[.slice none 0 0, .int .i64 k] w fun e w' => e = .returned (.int .i64 k) ∧ w' = w := by
  go_enter Try.func55, Try.ntmps55
  go_wp2
  refine wp_loop_rounds 1 ?_
  rw [rounds_succ]
  go_wp2
  go_ret
  exact ⟨rfl, rfl⟩
theorem markS0 (fl : Int) (w : World) : Calls Try.prog 19 #[.agg #[.slice none 0 0, .int .i64 fl], .int .i64 1] w fun e w' => e = .returned (.int .i64 1) ∧ Below w.heap.size w w' := by
  go_enter Try.func19, Try.ntmps19
  go_wp2_with fail
  refine (markC0 1 _).mono ?_
  rintro e w1 ⟨rfl, rfl⟩
  go_wp2
  go_ret
  exact ⟨rfl, (Below.refl _ _).alloc (Nat.le_refl _) _⟩
theorem heldS0 (fl : Int) (w : World) : Calls Try.prog 20 #[.agg #[.slice none 0 0, .int .i64 fl], .int .i64 1] w fun e w' => e = .returned (.int .i64 1) ∧ Below w.heap.size w w' := by
  go_enter Try.func20, Try.ntmps20
  go_wp2_with fail
  refine (heldC0 1 _).mono ?_
  rintro e w1 ⟨rfl, rfl⟩
  go_wp2
  go_ret
  exact ⟨rfl, (Below.refl _ _).alloc (Nat.le_refl _) _⟩
theorem one_new (w : World) (p0 p1 : Value) : ∃ W, W = w.alloc (.cells #[p0, p1] 29) ∧ Bt W w.heap.size p0 p1 ∧ Below w.heap.size w W :=
  ⟨_, rfl, Bt.new _ _ _ _, (Below.refl _ _).alloc (Nat.le_refl _) _⟩

set_option maxHeartbeats 4000000 in
set_option maxRecDepth 100000 in
theorem walk_fnExactNewSeries (w : World) (t : Int) (_ : -9223372036854775808 ≤ t ∧ t ≤ 9223372036854775807) :
    Calls Try.prog 4 #[.int .i64 t] w fun e w' => e = .returned (.bool true) ∧ Below w.heap.size w w' := by
  have HC1 := Lib.hid (fun W => newS t W)
  have HC2 := Lib.hid (fun W => newI t W)
  unfold NsEnd at HC1 HC2
  generalize nsB t = g at HC1 HC2
  generalize nsF t = f at HC1 HC2
  have hgg : (g != g) = false := by cases g <;> rfl
  have HE := Lib.hid (fun W => eqSer none none 0 0 [] f (by simp) W (GR.nil _ _ _) (GR.nil _ _ _))
  simp only [List.length_nil] at HE
  go_enter Try.func4, Try.ntmps4
  go_wp2_with fail
  refine (HC1.out _).mono ?_
  rintro e w1 ⟨rfl, hb1⟩
  have HB1 := Lib.hid hb1
  clear hb1
  obtain ⟨W1, hW1, hx1, hw1⟩ := one_new w1 (.slice none 0 0) (.int .i64 f)
  have HX1 := Lib.hid hx1
  have HD1 := Lib.hid (HB1.out.trans (hw1.mono HB1.out.size))
  clear hx1 hw1
  go_wp2_with fail
  rw [← hW1]
  clear hW1
  refine (HC2.out _).mono ?_
  rintro e w2 ⟨rfl, hb2⟩
  have HB2 := Lib.hid (HD1.out.trans (hb2.mono HD1.out.size))
  have hx1 := HX1.out.below hb2
  clear hb2
  obtain ⟨W2, hW2, hx2, hw2⟩ := one_new w2 (.slice none 0 0) (.int .i64 f)
  have HX2 := Lib.hid hx2
  have HY1 := Lib.hid (hx1.below hw2)
  have HD2 := Lib.hid (HB2.out.trans (hw2.mono HB2.out.size))
  have hl1 := hx1.lt
  have hn1 : w2.heap.size ≠ w1.heap.size := by omega
  have y := HY1.out.cells
  rw [hW2] at y
  obtain ⟨y0, y1, _⟩ := y
  clear hx1 hx2 hw2
  go_wp2_with fail
  rw [← hW2]
  clear hW2 y0 y1 hl1 hn1
  refine (HE.out _).mono ?_
  rintro e w3 ⟨rfl, hb3⟩
  have HB3 := Lib.hid (HD2.out.trans (hb3.mono HD2.out.size))
  have HX3 := Lib.hid (HX2.out.below hb3)
  have HY3 := Lib.hid (HY1.out.below hb3)
  clear hb3 HX2 HY1
  obtain ⟨x0, x1, _⟩ := HX3.out.cells
  go_wp2_with fail
  refine (markS0 f _).mono ?_
  rintro e w4 ⟨rfl, hb4⟩
  have HB4 := Lib.hid (HB3.out.trans (hb4.mono HB3.out.size))
  have HX4 := Lib.hid (HX3.out.below hb4)
  have HY4 := Lib.hid (HY3.out.below hb4)
  clear hb4 x0 x1 HX3 HY3
  obtain ⟨x0, x1, _⟩ := HX4.out.cells
  go_wp2_with fail
  refine (heldS0 f _).mono ?_
  rintro e w5 ⟨rfl, hb5⟩
  have HB5 := Lib.hid (HB4.out.trans (hb5.mono HB4.out.size))
  have HX5 := Lib.hid (HX4.out.below hb5)
  have HY5 := Lib.hid (HY4.out.below hb5)
  clear hb5 x0 x1 HX4 HY4
  go_wp2_with fail
  refine (HC2.out _).mono ?_
  rintro e w6 ⟨rfl, hb6⟩
  have HB6 := Lib.hid (HB5.out.trans (hb6.mono HB5.out.size))
  have hx6 := HX5.out.below hb6
  have hy6 := HY5.out.below hb6
  clear hb6
  obtain ⟨W7, hW7, hx7, hw7⟩ := one_new w6 (.slice none 0 0) (.int .i64 f)
  have HX7 := Lib.hid (hx6.below hw7)
  have HY7 := Lib.hid (hy6.below hw7)
  have HD7 := Lib.hid (HB6.out.trans (hw7.mono HB6.out.size))
  have hl6 := hy6.lt
  have hn6 : w6.heap.size ≠ w1.heap.size := by omega
  have y := HY7.out.cells
  rw [hW7] at y
  obtain ⟨y0, y1, _⟩ := y
  clear hx6 hy6 hx7 hw7
  go_wp2_with fail
  rw [← hW7]
  clear hW7 y0 y1 hl6 hn6
  refine (HE.out _).mono ?_
  rintro e w8 ⟨rfl, hb8⟩
  have HB8 := Lib.hid (HD7.out.trans (hb8.mono HD7.out.size))
  obtain ⟨x0, x1, _⟩ := (HX7.out.below hb8).cells
  clear hb8
  go_wp2_with fail
  refine (heldS0 f _).mono ?_
  rintro e w9 ⟨rfl, hb9⟩
  have HB9 := Lib.hid (HB8.out.trans (hb9.mono HB8.out.size))
  clear hb9
  go_wp2
  go_ret
  exact ⟨rfl, HB9.out⟩
end Go.Proofs.Yteiefngamccapaa
