/- The walk of the law FnExactNewTable: the call returns true, and nothing that was there has changed. -/
import Derived.Test.YtnnfeblcgnaokaaNx
namespace Go.Proofs.Ytnnfeblcgnaokaa
open Go.RowKit Go.Deep Go.ChangeShapes Go.WideShapes Go.ChangeAt

def NtEnd (m : Nat) (b : Bool) (w : World) (e : Ending) (w' : World) : Prop := (∃ ao c, e = .returned (.tuple #[.agg #[.int .i64 m, .slice ao m c, .int .i64 0], .bool b]) ∧ NR w' ao m) ∧ Below w.heap.size w w'
theorem newBoth (n : Int) : ∃ (m : Nat) (b : Bool), m ≤ 4 ∧ (∀ W, Calls Try.prog 4 #[.int .i64 n] W (NtEnd m b W)) ∧ ∀ W, Calls Try.prog 5 #[.int .i64 n] W (NtEnd m b W) := by
  by_cases h : many n = true
  · have hn : 0 ≤ n ∧ n ≤ 4 := by simp [many] at h; omega
    obtain ⟨m, rfl⟩ : ∃ m : Nat, n = m := ⟨n.toNat, by omega⟩
    exact ⟨m, true, by omega, newM m (by omega) h, newI m (by omega) h⟩
  · have h : many n = false := by simpa using h
    exact ⟨0, false, by omega, fun W => (newM_no n h W).mono fun e w' he => ⟨⟨none, 0, he.1, nr_nil _ _⟩, he.2⟩, fun W => (newI_no n h W).mono fun e w' he => ⟨⟨none, 0, he.1, nr_nil _ _⟩, he.2⟩⟩

set_option maxHeartbeats 8000000 in
set_option maxRecDepth 100000 in
theorem walk_fnExactNewTable (w : World) (n : Int) (_ : In64 n) :
    Calls Try.prog 3 #[.int .i64 n] w fun e w' => e = .returned (.bool true) ∧ Below w.heap.size w w' := by
  obtain ⟨m, b, hm, h1, h2⟩ := newBoth n
  have HM := Lib.hid h1
  have HI := Lib.hid h2
  have HE := Lib.hid (fun o o' c c' W p q => eqTab o o' c c' m hm W p q)
  have HK := Lib.hid (fun o c W p => markTab o c m hm W p)
  have HH := Lib.hid (fun o c W p => heldTab o c m hm W p)
  unfold NtEnd at HM HI
  have hbb : (b != b) = false := by simp
  clear h1 h2 hm
  go_enter Try.func3, Try.ntmps3
  go_wp2_with fail
  refine (HM.out _).mono ?_
  rintro e w1 ⟨⟨o1, c1, rfl, hN1⟩, hb1⟩
  have hW1 := (Below.refl w1.heap.size w1).alloc (Nat.le_refl _) (.cells #[.int .i64 m, .slice o1 m c1, .int .i64 0] 24)
  have HB1 := Lib.hid (hb1.trans (hW1.mono hb1.size))
  have HX1 := Lib.hid (Tt.new w1 (.int .i64 m) (.slice o1 m c1) (.int .i64 0) 24)
  have HN1 := Lib.hid (hN1.after hW1)
  obtain ⟨W1, hW⟩ : ∃ W, W = w1.alloc (.cells #[.int .i64 m, .slice o1 m c1, .int .i64 0] 24) := ⟨_, rfl⟩
  rw [← hW] at HB1 HX1 HN1
  clear hN1 hb1 hW1
  go_wp2_with fail
  rw [← hW]
  clear hW
  refine (HI.out _).mono ?_
  rintro e w2 ⟨⟨o2, c2, rfl, hN2⟩, hb2⟩
  have hW2 := (Below.refl w2.heap.size w2).alloc (Nat.le_refl _) (.cells #[.int .i64 m, .slice o2 m c2, .int .i64 0] 24)
  have hb2a := hb2.trans (hW2.mono hb2.size)
  have HB2 := Lib.hid (HB1.out.trans (hb2a.mono HB1.out.size))
  have HX2 := Lib.hid (HX1.out.below hb2a)
  have HN2 := Lib.hid (HN1.out.after hb2a)
  have HY2 := Lib.hid (Tt.new w2 (.int .i64 m) (.slice o2 m c2) (.int .i64 0) 24)
  have HP2 := Lib.hid (hN2.after hW2)
  have hne : w2.heap.size ≠ w1.heap.size := by have h1 := (HX1.out.below hb2).lt; omega
  obtain ⟨W2, hW⟩ : ∃ W, W = w2.alloc (.cells #[.int .i64 m, .slice o2 m c2, .int .i64 0] 24) := ⟨_, rfl⟩
  rw [← hW] at HB2 HX2 HN2 HY2 HP2
  have x := HX2.out.cells
  rw [hW] at x
  obtain ⟨x0, x1, x2, _⟩ := x
  clear hN2 hb2 hb2a hW2 HB1 HX1 HN1
  go_wp2_with fail
  rw [← hW]
  clear hW x0 x1 x2 hne
  refine (HE.out _ _ _ _ _ HP2.out HN2.out).mono ?_
  rintro e w3 ⟨rfl, hb3⟩
  have HB3 := Lib.hid (HB2.out.trans (hb3.mono HB2.out.size))
  have HX3 := Lib.hid (HX2.out.below hb3)
  have HY3 := Lib.hid (HY2.out.below hb3)
  have HN3 := Lib.hid (HN2.out.after hb3)
  have HP3 := Lib.hid (HP2.out.after hb3)
  clear hb3 HB2 HX2 HY2 HN2 HP2
  obtain ⟨y0, y1, y2, _⟩ := HY3.out.cells
  go_wp2_with fail
  refine (HK.out _ _ _ HP3.out).mono ?_
  rintro e w4 ⟨rfl, hb4⟩
  have HB4 := Lib.hid (HB3.out.trans (hb4.mono HB3.out.size))
  have HX4 := Lib.hid (HX3.out.below hb4)
  have HY4 := Lib.hid (HY3.out.below hb4)
  have HN4 := Lib.hid (HN3.out.after hb4)
  have HP4 := Lib.hid (HP3.out.after hb4)
  clear hb4 y0 y1 y2 HB3 HX3 HY3 HN3 HP3
  obtain ⟨y0, y1, y2, _⟩ := HY4.out.cells
  go_wp2_with fail
  refine (HH.out _ _ _ HP4.out).mono ?_
  rintro e w5 ⟨rfl, hb5⟩
  have HB5 := Lib.hid (HB4.out.trans (hb5.mono HB4.out.size))
  have HX5 := Lib.hid (HX4.out.below hb5)
  have HY5 := Lib.hid (HY4.out.below hb5)
  have HN5 := Lib.hid (HN4.out.after hb5)
  have HP5 := Lib.hid (HP4.out.after hb5)
  clear hb5 y0 y1 y2 HB4 HX4 HY4 HN4 HP4
  go_wp2_with fail
  refine (HI.out _).mono ?_
  rintro e w6 ⟨⟨o6, c6, rfl, hN6⟩, hb6⟩
  have hW6 := (Below.refl w6.heap.size w6).alloc (Nat.le_refl _) (.cells #[.int .i64 m, .slice o6 m c6, .int .i64 0] 24)
  have hb6a := hb6.trans (hW6.mono hb6.size)
  have HB6 := Lib.hid (HB5.out.trans (hb6a.mono HB5.out.size))
  have HX6 := Lib.hid (HX5.out.below hb6a)
  have HY6 := Lib.hid (HY5.out.below hb6a)
  have HN6 := Lib.hid (HN5.out.after hb6a)
  have HP6 := Lib.hid (HP5.out.after hb6a)
  have HQ6 := Lib.hid (hN6.after hW6)
  have hne : w6.heap.size ≠ w1.heap.size := by have h1 := (HX5.out.below hb6).lt; omega
  obtain ⟨W6, hW⟩ : ∃ W, W = w6.alloc (.cells #[.int .i64 m, .slice o6 m c6, .int .i64 0] 24) := ⟨_, rfl⟩
  rw [← hW] at HB6 HX6 HY6 HN6 HP6 HQ6
  have x := HX6.out.cells
  rw [hW] at x
  obtain ⟨x0, x1, x2, _⟩ := x
  clear hN6 hb6 hb6a hW6 HB5 HX5 HY5 HN5 HP5
  go_wp2_with fail
  rw [← hW]
  clear hW x0 x1 x2 hne
  refine (HE.out _ _ _ _ _ HQ6.out HN6.out).mono ?_
  rintro e w7 ⟨rfl, hb7⟩
  have HB7 := Lib.hid (HB6.out.trans (hb7.mono HB6.out.size))
  have HY7 := Lib.hid (HY6.out.below hb7)
  have HP7 := Lib.hid (HP6.out.after hb7)
  clear hb7 HB6 HX6 HY6 HN6 HP6 HQ6
  obtain ⟨y0, y1, y2, _⟩ := HY7.out.cells
  go_wp2_with fail
  refine (HH.out _ _ _ HP7.out).mono ?_
  rintro e w8 ⟨rfl, hb8⟩
  have HB8 := Lib.hid (HB7.out.trans (hb8.mono HB7.out.size))
  clear hb8 y0 y1 y2
  go_wp2
  go_ret
  exact ⟨rfl, HB8.out⟩
end Go.Proofs.Ytnnfeblcgnaokaa
