/- Contracts of NewTable, in the model and in the program: the stripes with a lock each; over this seat's translation. -/
import Derived.Test.YtnnfeblcgnaokaaNt
import Derived.Test.YtnnfeblcgnaokaaLk8
import Derived.Conc.RwLone
import Derived.Defers
import Derived.Deep.RegionLaw
namespace Go.Proofs.Ytnnfeblcgnaokaa
open Go.RowKit Go.Deep Go.ChangeShapes Go.WideShapes Go.ChangeAt Go.RwLone

/-- Which numbers of stripes there are. -/
def many (n : Int) : Bool := n = 1 || n = 2 || n = 4
theorem manyM (n : Int) (w : World) : Calls Try.prog 9 #[.int .i64 n] w fun e w' => e = .returned (.bool (many n)) ∧ w = w' := by
  unfold many
  by_cases h1 : n = 1
  · subst h1
    go_enter Try.func9, Try.ntmps9
    go_wp2
    go_ret
    exact ⟨rfl, rfl⟩
  by_cases h2 : n = 2
  · subst h2
    go_enter Try.func9, Try.ntmps9
    go_wp2
    go_ret
    exact ⟨rfl, rfl⟩
  have e1 : (n == 1) = false := by simpa using h1
  have e2 : (n == 2) = false := by simpa using h2
  go_enter Try.func9, Try.ntmps9
  go_wp2
  go_ret
  refine ⟨ret_bool ?_, rfl⟩
  simp [h1, h2]
  rfl
theorem manyI (n : Int) (w : World) : Calls Try.prog 10 #[.int .i64 n] w fun e w' => e = .returned (.bool (many n)) ∧ w = w' := by
  unfold many
  by_cases h1 : n = 1
  · subst h1
    go_enter Try.func10, Try.ntmps10
    go_wp2
    go_ret
    exact ⟨rfl, rfl⟩
  by_cases h2 : n = 2
  · subst h2
    go_enter Try.func10, Try.ntmps10
    go_wp2
    go_ret
    exact ⟨rfl, rfl⟩
  have e1 : (n == 1) = false := by simpa using h1
  have e2 : (n == 2) = false := by simpa using h2
  go_enter Try.func10, Try.ntmps10
  go_wp2
  go_ret
  refine ⟨ret_bool ?_, rfl⟩
  simp [h1, h2]
  rfl

/-- A stripe at an offset that is free and has no cells. -/
def Fr (w : World) (S o : Nat) : Prop := (∃ x, w.cell? ⟨S, o, none⟩ = some x) ∧ (∃ x, w.cell? ⟨S, o + 2, none⟩ = some x) ∧ (∃ x, w.cell? ⟨S, o + 3, none⟩ = some x) ∧ w.cell? ⟨S, o + 4, none⟩ = some (.int .i32 0) ∧ w.cell? ⟨S, o + 46, none⟩ = some (.int .i64 0) ∧ w.frozen? ⟨S, o + 4, none⟩ = false
/-- The stripes: nothing in them, and none is held. -/
def Sb (w : World) (S : Nat) : Prop := ∀ k, k < 4 → Fr w S (k * 47)
theorem cell_dr (w : World) (q : Nat) (p : Addr) : (w.drewN q).cell? p = w.cell? p := by
  induction q with
  | zero => rfl
  | succ q ih => exact ih
theorem frozen_dr (w : World) (q : Nat) (p : Addr) : (w.drewN q).frozen? p = w.frozen? p := by
  induction q with
  | zero => rfl
  | succ q ih => exact ih
theorem heap_dr (w : World) (q : Nat) : (w.drewN q).heap = w.heap := by
  induction q with
  | zero => rfl
  | succ q ih => exact ih
theorem Sb.set {w : World} {S k : Nat} (h : Sb w S) (hk : k < 4) (i : Int) (q : Nat) : Sb (((w.setCell ⟨S, k * 47 + 4, none⟩ (.int .i32 i)).drewN q).setCell ⟨S, k * 47 + 4, none⟩ (.int .i32 0)) S := by
  intro j hj
  obtain ⟨_, _, _, hc4, _, _⟩ := h k hk
  obtain ⟨⟨x, c0⟩, ⟨y, c2⟩, ⟨z, c3⟩, c4, c46, hz⟩ := h j hj
  have o (m : Nat) (v : Value) (hm : j * 47 + m ≠ k * 47 + 4) (hv : w.cell? ⟨S, j * 47 + m, none⟩ = some v) : (((w.setCell ⟨S, k * 47 + 4, none⟩ (.int .i32 i)).drewN q).setCell ⟨S, k * 47 + 4, none⟩ (.int .i32 0)).cell? ⟨S, j * 47 + m, none⟩ = some v :=
    (World.cell?_setCell_other _ ⟨S, k * 47 + 4, none⟩ ⟨S, j * 47 + m, none⟩ _ (by simp; try omega)).trans ((cell_dr _ q _).trans ((World.cell?_setCell_other _ ⟨S, k * 47 + 4, none⟩ ⟨S, j * 47 + m, none⟩ _ (by simp; try omega)).trans hv))
  refine ⟨⟨x, o 0 x (by omega) c0⟩, ⟨y, o 2 y (by omega) c2⟩, ⟨z, o 3 z (by omega) c3⟩, ?_, o 46 _ (by omega) c46, by simp [hz]⟩
  by_cases e : j = k
  · subst e
    exact World.cell?_setCell_same _ ⟨S, j * 47 + 4, none⟩ _ ((cell_dr _ q _).trans <| World.cell?_setCell_same w ⟨S, j * 47 + 4, none⟩ _ hc4)
  · exact o 4 _ (by omega) c4

theorem gb_drN (w : World) (q : Nat) (row : Option Nat) : w.grownBy (w.drewN q) row := gb_below (below_drewN2 (Below.refl _ _) q)
theorem w32_up : wrap32 (0 + 1) = 1 := IntWalk.wrap32_in _ (by omega)
theorem w32_down : wrap32 (1 + -1) = 0 := IntWalk.wrap32_in _ (by omega)
theorem rl_open (S o : Nat) (x0 x3 : Value) (w : World) (c0 : w.cell? ⟨S, o, none⟩ = some x0) (c3 : w.cell? ⟨S, o + 3, none⟩ = some x3) (c4 : w.cell? ⟨S, o + 4, none⟩ = some (.int .i32 0)) (hz : w.frozen? ⟨S, o + 4, none⟩ = false) :
    Calls Try.prog 19 #[.pointer (some ⟨S, o, none⟩)] w fun e w' => e = .returned (.tuple #[]) ∧ w' = w.setCell ⟨S, o + 4, none⟩ (.int .i32 1) := by
  have h := rlock_open Try.rwRLib S o 0 x0 x3 w c0 c3 c4 hz (by rw [w32_up]; omega)
  rw [w32_up] at h
  exact h
theorem rl_shut (S o : Nat) (x0 x2 : Value) (w : World) (c0 : w.cell? ⟨S, o, none⟩ = some x0) (c2 : w.cell? ⟨S, o + 2, none⟩ = some x2) (c4 : w.cell? ⟨S, o + 4, none⟩ = some (.int .i32 1)) (hz : w.frozen? ⟨S, o + 4, none⟩ = false) :
    CallsD Try.prog 20 #[.pointer (some ⟨S, o, none⟩)] .returning w fun e u' w' => u' = .returning ∧ (e = .returned (.tuple #[]) ∧ w' = w.setCell ⟨S, o + 4, none⟩ (.int .i32 0)) := by
  have h := runlock_deferred Try.rwRLib S o 1 x0 x2 .returning w c0 c2 c4 hz (by rw [w32_down]; omega)
  rw [w32_down] at h
  exact h

set_option maxHeartbeats 4000000 in
set_option maxRecDepth 100000 in
theorem cellsI (S k : Nat) (hk : k < 4) (w : World) (h : Sb w S) :
    Calls Try.prog 15 #[.pointer (some ⟨S, k * 47, none⟩)] w fun e w' => e = .returned (.slice none 0 0) ∧ Sb w' S ∧ w.grownBy w' (some S) := by
  have HS := Lib.hid h
  obtain ⟨⟨x0, c0⟩, ⟨x2, c2⟩, ⟨x3, c3⟩, c4, c46, hz⟩ := h k hk
  clear h
  have hn' : (w.setCell ⟨S, k * 47 + 4, none⟩ (.int .i32 1)).cell? ⟨S, k * 47 + 46, none⟩ = some (.int .i64 0) := (World.cell?_setCell_other _ ⟨S, k * 47 + 4, none⟩ ⟨S, k * 47 + 46, none⟩ _ (by simp)).trans c46
  go_enter_defers Try.func15, Try.ntmps15
  go_wp2_with fail
  refine (rl_open S (k * 47) x0 x3 _ c0 c3 c4 hz).mono ?_
  rintro e w' ⟨rfl, rfl⟩
  have d0 : (w.setCell ⟨S, k * 47 + 4, none⟩ (.int .i32 1)).cell? ⟨S, k * 47, none⟩ = some x0 := (World.cell?_setCell_other _ ⟨S, k * 47 + 4, none⟩ ⟨S, k * 47, none⟩ _ (by simp)).trans c0
  have d2 : (w.setCell ⟨S, k * 47 + 4, none⟩ (.int .i32 1)).cell? ⟨S, k * 47 + 2, none⟩ = some x2 := (World.cell?_setCell_other _ ⟨S, k * 47 + 4, none⟩ ⟨S, k * 47 + 2, none⟩ _ (by simp)).trans c2
  have d4 : (w.setCell ⟨S, k * 47 + 4, none⟩ (.int .i32 1)).cell? ⟨S, k * 47 + 4, none⟩ = some (.int .i32 1) := World.cell?_setCell_same w ⟨S, k * 47 + 4, none⟩ _ c4
  have dz : (w.setCell ⟨S, k * 47 + 4, none⟩ (.int .i32 1)).frozen? ⟨S, k * 47 + 4, none⟩ = false := by simp [hz]
  have d46 : (w.setCell ⟨S, k * 47 + 4, none⟩ (.int .i32 1)).cell? ⟨S, k * 47 + 46, none⟩ = some (.int .i64 0) := (World.cell?_setCell_other _ ⟨S, k * 47 + 4, none⟩ ⟨S, k * 47 + 46, none⟩ _ (by simp)).trans c46
  clear c0 c2 c3 c4 c46 hz hn'
  obtain ⟨W, hW⟩ : ∃ W, W = w.setCell ⟨S, k * 47 + 4, none⟩ (.int .i32 1) := ⟨_, rfl⟩
  rw [← hW] at d0 d2 d4 dz d46 ⊢
  have HW := Lib.hid hW
  clear hW
  go_wp2_with fail
  go_quiet (fail)
  go_wp2_with fail
  refine wp_loop_rounds 1 ?_
  rw [rounds_succ]
  go_wp2_with fail
  refine leaves_cons (f := 20) (args := #[.pointer (some ⟨S, k * 47, none⟩)]) (by simp) (by simp [go_sem]) ?_
  refine (rl_shut S (k * 47) x0 x2 _ ((cell_dr _ _ _).trans d0) ((cell_dr _ _ _).trans d2) ((cell_dr _ _ _).trans d4) ((frozen_dr _ _ _).trans dz)).mono ?_
  rintro e u' w'' ⟨rfl, rfl, rfl⟩
  refine ⟨_, results_tmp rfl _ _ _, rfl, ?_, ?_⟩
  · rw [HW.out]
    exact HS.out.set hk 1 _
  · rw [HW.out]
    exact ((gb_set w S _ _).trans (gb_drN _ _ _)).trans (gb_set _ S _ _)
end Go.Proofs.Ytnnfeblcgnaokaa
