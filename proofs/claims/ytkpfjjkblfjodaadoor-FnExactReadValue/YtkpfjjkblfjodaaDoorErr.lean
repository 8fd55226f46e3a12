/- Contracts of the library's making of an error of a number's text, over the door's translation: the answer is some error, and nothing that was there is written. -/
import Derived.Test.YtkpfjjkblfjodaaDoorVal
import Derived.Lib.BufferWrite
import Derived.Lib.UnsafeStr
import Derived.Lib.IfaceEq
import Derived.Laws.MakeOwn
import Derived.RegionTactic
import Derived.Deep.RegionWith
namespace Go.Proofs.YtkpfjjkblfjodaaDoor
open Go.RowKit Go.Deep

theorem Tryd.info5 : (Tryd.prog.info? 5).map (fun i => (i.zero, i.size, i.bytes)) = some (some (.int .u8 0), 1, 1) := by kernel_rfl

set_option maxHeartbeats 2000000 in
theorem clone49 (s : ByteArray) (w : World) (hs : s.size ≤ 1048576) : Calls Tryd.prog 49 #[.string s] w fun e w' => e = .returned (.string s) ∧ Below w.heap.size w w' := by
  by_cases h0 : s.size = 0
  · have e : s = ⟨#[]⟩ := ByteArray.ext (Array.eq_empty_of_size_eq_zero h0)
    subst e
    go_enter Tryd.func49, Tryd.ntmps49
    go_wp2
    go_ret
    exact ⟨rfl, Below.refl _ _⟩
  · have hmk := run_make_row' (P := Tryd.prog) 44 5 (.int .u8 0) 1 Tryd.underlying44 Tryd.info5 rfl .i64 .i64 s.size (by omega) (by omega)
    have hinfo : (Tryd.prog.info? 5).map (·.size) = some 1 := by kernel_rfl
    have hco : Tryd.prog.cellsOf 5 = 1 := by kernel_rfl
    have hMs : (madeCells #[Value.int .u8 0] s.size).size = s.size := size_madeCells _ _
    generalize madeCells #[Value.int .u8 0] s.size = M at hmk hMs
    have hgM : (w.alloc (.cells M 5)).heap[w.heap.size]? = some (.cells M 5 (0, 0)) := blk_alloc_new _ _
    have hcp := Lib.run_copy_row_string (P := Tryd.prog) (w.alloc (.cells M 5)) 44 9 3 5 w.heap.size 0 s.size s.size s M 5 Tryd.underlying44 hinfo hgM (Nat.le_refl _) (by omega)
    have hYl : (M.toList.take 0 ++ Lib.byteCells s.data.toList ++ M.toList.drop (0 + s.size)).toArray.toList = Lib.byteCells s.data.toList := by
      rw [List.toList_toArray, List.take_zero, List.nil_append, List.drop_of_length_le (by rw [Array.length_toList]; omega), List.append_nil]
    generalize (M.toList.take 0 ++ Lib.byteCells s.data.toList ++ M.toList.drop (0 + s.size)).toArray = Y at hcp hYl
    have hYs : Y.size = s.size := by rw [← Array.length_toList, hYl, Lib.byteCells_length, ← Lib.size_eq]
    have hgY : ((w.alloc (.cells M 5)).setRow w.heap.size Y).heap[w.heap.size]? = some (.cells Y 5 (0, 0)) := setRow_heap _ _ M _ 5 (0, 0) hgM
    have hne : s.data.toList ≠ [] := fun e => h0 (by rw [Lib.size_eq, e]; rfl)
    have hUS := Lib.run_unsafeString_row (P := Tryd.prog) ((w.alloc (.cells M 5)).setRow w.heap.size Y) 64 3 9 5 Tryd.underlying64 hco w.heap.size Y.size (by unfold World.shape?; rw [hgY]) s.data.toList hne (by rw [← Lib.size_eq]; omega) (by rw [← Lib.size_eq]; omega)
      (fun j x hx => Lib.cells_of_row hgY Y.size j _ (by rw [List.take_of_length_le (by rw [Array.length_toList]; exact Nat.le_refl _), hYl]; simp [Lib.byteCells, hx]))
    rw [← Lib.size_eq] at hUS
    have HB : Hid (Below w.heap.size w ((w.alloc (.cells M 5)).setRow w.heap.size Y)) := Lib.hid (((Below.refl _ w).alloc (Nat.le_refl _) _).trans ⟨rfl, rfl, rfl, by simp, fun k hk => setRow_other _ _ _ _ (by omega)⟩)
    clear hgM hgY hYl
    go_enter Tryd.func49, Tryd.ntmps49
    go_wp2
    go_ret
    exact ⟨rfl, Lib.below_freeze HB.out (p := ⟨w.heap.size, 0, none⟩) (Nat.le_refl _) _⟩

/-- Some pointer to new memory. -/
def NewPtr (w : World) (e : Ending) (w' : World) : Prop := ∃ N : Nat, e = .returned (.pointer (some ⟨N, 0, none⟩)) ∧ Below w.heap.size w w'

/-- A cell that holds an error. -/
def ErrAt (w : World) (g : Nat) : Prop := ∃ t v, w.cell? ⟨g, 0, none⟩ = some (.iface t v)

theorem ErrAt.lt {w : World} {g : Nat} (h : ErrAt w g) : g < w.heap.size := by
  obtain ⟨t, v, h⟩ := h
  exact World.block_lt_of_cell? w _ h

theorem ErrAt.below {w w' : World} {g : Nat} (h : ErrAt w g) (hb : Below w.heap.size w w') : ErrAt w' g := by
  have hl := h.lt
  obtain ⟨t, v, h⟩ := h
  exact ⟨t, v, (hb.cell (p := ⟨g, 0, none⟩) hl).trans h⟩

set_option maxHeartbeats 2000000 in
theorem syn38 (f s : ByteArray) (w : World) (hs : s.size ≤ 1048576) (hv : ErrAt w 2) : Calls Tryd.prog 38 #[.string f, .string s] w (NewPtr w) := by
  have hG := hv.lt
  obtain ⟨te, pe, hc⟩ := hv
  have hvd : w.drew.cell? ⟨2, 0, none⟩ = some (.iface te pe) := hc
  go_enter Tryd.func38, Tryd.ntmps38
  go_wp2
  go_region_with (
      go_at_call 49
      refine (clone49 s _ hs).mono ?_
      rintro e w2 ⟨rfl, hbel⟩
      have hv2 : w2.cell? ⟨2, 0, none⟩ = some (.iface te pe) := (hbel.cell (show (⟨2, 0, none⟩ : Addr).block < w.drew.heap.size from hG)).trans hvd)
  all_goals (
    go_wp2
    go_ret
    have hs2 : w.heap.size ≤ w2.heap.size := hbel.size
    exact ⟨_, rfl, ((Below.drew (Below.refl _ w)).trans hbel).alloc hs2 _⟩)

set_option maxHeartbeats 2000000 in
theorem rng39 (f s : ByteArray) (w : World) (hs : s.size ≤ 1048576) (hv : ErrAt w 3) : Calls Tryd.prog 39 #[.string f, .string s] w (NewPtr w) := by
  have hG := hv.lt
  obtain ⟨te, pe, hc⟩ := hv
  have hvd : w.drew.cell? ⟨3, 0, none⟩ = some (.iface te pe) := hc
  go_enter Tryd.func39, Tryd.ntmps39
  go_wp2
  go_region_with (
      go_at_call 49
      refine (clone49 s _ hs).mono ?_
      rintro e w2 ⟨rfl, hbel⟩
      have hv2 : w2.cell? ⟨3, 0, none⟩ = some (.iface te pe) := (hbel.cell (show (⟨3, 0, none⟩ : Addr).block < w.drew.heap.size from hG)).trans hvd)
  all_goals (
    go_wp2
    go_ret
    have hs2 : w.heap.size ≤ w2.heap.size := hbel.size
    exact ⟨_, rfl, ((Below.drew (Below.refl _ w)).trans hbel).alloc hs2 _⟩)

/-- Some error. -/
def SomeErr (w : World) (e : Ending) (w' : World) : Prop := ∃ t v, e = .returned (.iface t v) ∧ Below w.heap.size w w'

theorem err26 (f s : ByteArray) (b z k : Int) (w : World) (hs : s.size ≤ 1048576) (hk : k = 1 ∨ k = 2) (h2 : ErrAt w 2) (h3 : ErrAt w 3) :
    Calls Tryd.prog 26 #[.string f, .string s, .int .i64 b, .int .i64 z, .iface 65 (.int .i64 k)] w (SomeErr w) := by
  have hcm : (Tryd.prog.info? 65).map (·.comparable) = some true := by kernel_rfl
  have heq : ∀ (a b : Int) W, (binOp .eql 37 (.iface 65 (.int .i64 a)) (.iface 65 (.int .i64 b))).run Tryd.prog W = .ok (.bool (a == b)) W := fun a b W => Lib.run_eql_iface_int W a b Tryd.underlying37 hcm Tryd.underlying65
  have H2 := Lib.hid h2; have H3 := Lib.hid h3; clear h2 h3
  rcases hk with rfl | rfl
  · go_enter Tryd.func26, Tryd.ntmps26
    go_wp2_with fail
    refine (rng39 f s w hs H3.out).mono ?_
    rintro e w1 ⟨N, rfl, hb⟩
    have HB := Lib.hid hb; clear hb
    go_wp2
    go_ret
    exact ⟨_, _, rfl, HB.out⟩
  · go_enter Tryd.func26, Tryd.ntmps26
    go_wp2_with fail
    refine (syn38 f s w hs H2.out).mono ?_
    rintro e w1 ⟨N, rfl, hb⟩
    have HB := Lib.hid hb; clear hb
    go_wp2
    go_ret
    exact ⟨_, _, rfl, HB.out⟩
end Go.Proofs.YtkpfjjkblfjodaaDoor
