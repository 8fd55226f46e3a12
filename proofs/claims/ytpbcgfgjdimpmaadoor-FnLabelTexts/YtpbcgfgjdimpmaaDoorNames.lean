/- Contracts of the functions on one byte, one name and one word, in the program and in the model, over this seat's translation: both sides answer nameB and wordB. -/
import Derived.Test.YtpbcgfgjdimpmaaDoorProg
import Derived.Test.YtpbcgfgjdimpmaaDoorMath
import Derived.WalkKit
import Derived.WalkLawsBesides
import Derived.Laws.Strings2
import Derived.Lib.OthersKept
import Derived.Deep.OwnRows
import Derived.Deep.QuietTactic
import Derived.BigQuiet
namespace Go.Proofs.YtpbcgfgjdimpmaaDoor
open Go.RowKit Go.Deep

/-- The program's table of what names are made of lies in memory as its text lays it. -/
structure Spans (w : World) : Prop where
  spans : ∃ t fr, w.heap[0]? = some (.cells #[.int .i32 97, .int .i32 122, .int .i32 48, .int .i32 57, .int .i32 95, .int .i32 95] t fr)
/-- Both tables lie in memory as the program's text lays them. -/
structure Tabs (w : World) : Prop where
  one : Spans w
  barred : ∃ t fr, w.heap[1]? = some (.cells #[.int .i32 34, .int .i32 44, .int .i32 123, .int .i32 125] t fr)

theorem Spans.size {w : World} (h : Spans w) : 1 ≤ w.heap.size := by
  obtain ⟨t, fr, e⟩ := h.spans
  exact (Array.getElem?_eq_some_iff.1 e).1
theorem Tabs.size {w : World} (h : Tabs w) : 2 ≤ w.heap.size := by
  obtain ⟨t, fr, e⟩ := h.barred
  exact (Array.getElem?_eq_some_iff.1 e).1
theorem Spans.below {w w' : World} {B : Nat} (h : Spans w) (hb : Below B w w') (h2 : 1 ≤ B) : Spans w' :=
  ⟨by obtain ⟨t, fr, e⟩ := h.spans; exact ⟨t, fr, (hb.block 0 (by omega)).trans e⟩⟩
theorem Tabs.below {w w' : World} {B : Nat} (h : Tabs w) (hb : Below B w w') (h2 : 2 ≤ B) : Tabs w' :=
  ⟨h.one.below hb (by omega), by obtain ⟨t, fr, e⟩ := h.barred; exact ⟨t, fr, (hb.block 1 (by omega)).trans e⟩⟩
theorem Spans.below' {w w' : World} (h : Spans w) (hb : Below w.heap.size w w') : Spans w' := h.below hb h.size
theorem Tabs.below' {w w' : World} (h : Tabs w) (hb : Below w.heap.size w w') : Tabs w' := h.below hb h.size

theorem ret_bool {a b : Bool} (h : a = b) : Ending.returned (.bool a) = .returned (.bool b) := by rw [h]
theorem ret_int {k : IntKind} {a b : Int} (h : a = b) : Ending.returned (.int k a) = .returned (.int k b) := by rw [h]

theorem dig71 (c : Nat) (w : World) : Calls Tryd.prog 110 #[.int .i32 c] w fun e w' => e = .returned (.bool (isDig c)) ∧ w = w' := by
  by_cases h1 : 48 ≤ c
  · by_cases h2 : c ≤ 57
    · go_enter Tryd.func110, Tryd.ntmps110
      go_wp2
      go_ret
      exact ⟨ret_bool (by rw [Bool.eq_iff_iff]; simp [isDig]; omega), rfl⟩
    · go_enter Tryd.func110, Tryd.ntmps110
      go_wp2
      go_ret
      exact ⟨ret_bool (by rw [Bool.eq_iff_iff]; simp [isDig]; omega), rfl⟩
  · go_enter Tryd.func110, Tryd.ntmps110
    go_wp2
    go_ret
    exact ⟨ret_bool (by rw [Bool.eq_iff_iff]; simp [isDig]; omega), rfl⟩

set_option maxHeartbeats 1000000 in
theorem inName72 (c : Nat) (w : World) (hT : Spans w) : Calls Tryd.prog 111 #[.int .i32 c] w fun e w' => e = .returned (.bool (inName c)) ∧ Below w.heap.size w w' := by
  obtain ⟨t, fr, hg⟩ := hT.spans
  have HG := Lib.hid hg
  clear hg
  have i0 : ∀ w, (Instr.index 146 (.agg #[.int .i32 97, .int .i32 122, .int .i32 48, .int .i32 57, .int .i32 95, .int .i32 95]) (.int .i64 0)).run Tryd.prog w = .ok (.agg #[.int .i32 97, .int .i32 122]) w := fun _ => by kernel_rfl
  have i1 : ∀ w, (Instr.index 146 (.agg #[.int .i32 97, .int .i32 122, .int .i32 48, .int .i32 57, .int .i32 95, .int .i32 95]) (.int .i64 1)).run Tryd.prog w = .ok (.agg #[.int .i32 48, .int .i32 57]) w := fun _ => by kernel_rfl
  have i2 : ∀ w, (Instr.index 146 (.agg #[.int .i32 97, .int .i32 122, .int .i32 48, .int .i32 57, .int .i32 95, .int .i32 95]) (.int .i64 2)).run Tryd.prog w = .ok (.agg #[.int .i32 95, .int .i32 95]) w := fun _ => by kernel_rfl
  go_enter Tryd.func111, Tryd.ntmps111
  go_wp2_with (refine wpList_load_row rfl 146 _ rfl 0 rfl t _ fr _ HG.out Tryd.underlying146 rfl (by kernel_rfl) ?_)
  by_cases a1 : 97 ≤ c <;> by_cases a2 : c ≤ 122 <;> by_cases b1 : 48 ≤ c <;> by_cases b2 : c ≤ 57 <;> by_cases c1 : 95 ≤ c <;> by_cases c2 : c ≤ 95 <;> try omega
  all_goals
    refine wp_loop_rounds 4 ?_
    rw [rounds_succ]
    go_wp2
    repeat (rw [rounds_succ]; go_wp2)
    go_ret
    refine ⟨ret_bool (by rw [Bool.eq_iff_iff]; simp [inName]; omega), ?_⟩
    first | exact (Below.refl _ _).alloc (Nat.le_refl _) _ | exact ((Below.refl _ _).alloc (Nat.le_refl _) _).alloc (by simp) _ | exact (((Below.refl _ _).alloc (Nat.le_refl _) _).alloc (by simp) _).alloc (by simp; omega) _

set_option maxHeartbeats 1000000 in
theorem inWord92 (c : Nat) (w : World) (hT : Tabs w) : Calls Tryd.prog 112 #[.int .i32 c] w fun e w' => e = .returned (.bool (inWord c)) ∧ w = w' := by
  obtain ⟨t, fr, hg⟩ := hT.barred
  have HG := Lib.hid hg
  clear hg
  have i0 : ∀ w, (Instr.index 147 (.agg #[.int .i32 34, .int .i32 44, .int .i32 123, .int .i32 125]) (.int .i64 0)).run Tryd.prog w = .ok (.int .i32 34) w := fun _ => by kernel_rfl
  have i1 : ∀ w, (Instr.index 147 (.agg #[.int .i32 34, .int .i32 44, .int .i32 123, .int .i32 125]) (.int .i64 1)).run Tryd.prog w = .ok (.int .i32 44) w := fun _ => by kernel_rfl
  have i2 : ∀ w, (Instr.index 147 (.agg #[.int .i32 34, .int .i32 44, .int .i32 123, .int .i32 125]) (.int .i64 2)).run Tryd.prog w = .ok (.int .i32 123) w := fun _ => by kernel_rfl
  have i3 : ∀ w, (Instr.index 147 (.agg #[.int .i32 34, .int .i32 44, .int .i32 123, .int .i32 125]) (.int .i64 3)).run Tryd.prog w = .ok (.int .i32 125) w := fun _ => by kernel_rfl
  have hcase : c = 34 ∨ c = 44 ∨ c = 123 ∨ c = 125 ∨ (c ≠ 34 ∧ c ≠ 44 ∧ c ≠ 123 ∧ c ≠ 125 ∧ c < 33) ∨ (c ≠ 34 ∧ c ≠ 44 ∧ c ≠ 123 ∧ c ≠ 125 ∧ 33 ≤ c ∧ 126 < c) ∨ (c ≠ 34 ∧ c ≠ 44 ∧ c ≠ 123 ∧ c ≠ 125 ∧ 33 ≤ c ∧ c ≤ 126) := by omega
  rcases hcase with rfl | rfl | rfl | rfl | ⟨n1, n2, n3, n4, h1⟩ | ⟨n1, n2, n3, n4, h1, h2⟩ | ⟨n1, n2, n3, n4, h1, h2⟩
  iterate 4
    · go_enter Tryd.func112, Tryd.ntmps112
      go_wp2_with (refine wpList_load_row rfl 147 _ rfl 1 rfl t _ fr _ HG.out Tryd.underlying147 rfl (by kernel_rfl) ?_)
      refine wp_loop_rounds 5 ?_
      rw [rounds_succ]
      go_wp2
      repeat (rw [rounds_succ]; go_wp2)
      go_ret
      exact ⟨rfl, rfl⟩
  all_goals
    have e1 : ((c : Int) == 34) = false := beq_eq_false_iff_ne.2 (by omega)
    have e2 : ((c : Int) == 44) = false := beq_eq_false_iff_ne.2 (by omega)
    have e3 : ((c : Int) == 123) = false := beq_eq_false_iff_ne.2 (by omega)
    have e4 : ((c : Int) == 125) = false := beq_eq_false_iff_ne.2 (by omega)
    go_enter Tryd.func112, Tryd.ntmps112
    go_wp2_with (refine wpList_load_row rfl 147 _ rfl 1 rfl t _ fr _ HG.out Tryd.underlying147 rfl (by kernel_rfl) ?_)
    refine wp_loop_rounds 5 ?_
    rw [rounds_succ]
    go_wp2
    repeat (rw [rounds_succ]; go_wp2)
    go_ret
    exact ⟨ret_bool (by rw [Bool.eq_iff_iff]; simp [inWord]; omega), rfl⟩

theorem in79 (n lo hi : Int) (w : World) : Calls Tryd.prog 72 #[.int .i64 n, .int .i64 lo, .int .i64 hi] w fun e w' => e = .returned (.bool (decide (lo ≤ n) && decide (n ≤ hi))) ∧ w = w' := by
  by_cases h1 : lo ≤ n
  · go_enter Tryd.func72, Tryd.ntmps72
    go_wp2
    go_ret
    exact ⟨ret_bool (by simp [h1]), rfl⟩
  · go_enter Tryd.func72, Tryd.ntmps72
    go_wp2
    go_ret
    exact ⟨ret_bool (by simp; omega), rfl⟩
end Go.Proofs.YtpbcgfgjdimpmaaDoor
