/- Contract of the model's text of a small number, over this seat's translation. -/
import Derived.Test.YtoelcbfbpijfcaaDoorAny
import Derived.Deep.RegionWith
namespace Go.Proofs.YtoelcbfbpijfcaaDoor
open Go.RowKit Go.Deep

def Numbered (w : World) (e : Ending) (w' : World) : Prop := ∃ x : ByteArray, x.size ≤ 2 ∧ e = .returned (.string x) ∧ Below w.heap.size w w'

set_option maxRecDepth 100000 in
theorem num55a (k : Nat) (hk : k < 10) (w : World) : Calls Tryd.prog 55 #[.int .i64 k] w fun e w' => ∃ x : ByteArray, x.size = 1 ∧ e = .returned (.string x) ∧ Below w.heap.size w w' := by
  have hcv := conv_one w ((48 : Int) + (k : Int))
  go_enter Tryd.func55, Tryd.ntmps55
  go_wp2
  go_ret
  exact ⟨_, rfl, rfl, (Below.refl _ _).alloc (Nat.le_refl _) _⟩
theorem conv_one_d (w : World) (n : Int) : (convert 22 9 (.slice (some ⟨w.heap.size, 0, none⟩) 1 1)).run Tryd.prog (w.alloc (.cells #[.int .u8 n] 5)).drew = .ok (.string ⟨#[UInt8.ofNat n.toNat]⟩) (w.alloc (.cells #[.int .u8 n] 5)).drew := by
  rw [run_convert_bytes_string _ 22 9 5 _ 1 1 Tryd.underlying22 Tryd.underlying5 Tryd.underlying9, run_bytesToString _ _ 1 1 [n] (by simp [go_sem])]
  rfl
theorem conv_at {w : World} {h : Nat} {n : Int} (hc : w.cell? ⟨h, 0, none⟩ = some (.int .u8 n)) : (convert 22 9 (.slice (some ⟨h, 0, none⟩) 1 1)).run Tryd.prog w = .ok (.string ⟨#[UInt8.ofNat n.toNat]⟩) w := by
  rw [run_convert_bytes_string _ 22 9 5 _ 1 1 Tryd.underlying22 Tryd.underlying5 Tryd.underlying9, run_bytesToString _ _ 1 1 [n] (by simp [go_sem, hc])]
  rfl
theorem cell_after {w w1 : World} {n : Int} (hb : Below (w.alloc (.cells #[.int .u8 n] 5)).drew.heap.size (w.alloc (.cells #[.int .u8 n] 5)).drew w1) : w1.cell? ⟨w.heap.size, 0, none⟩ = some (.int .u8 n) := by
  refine (hb.cell (p := ⟨w.heap.size, 0, none⟩) (by simp)).trans ?_
  simp
theorem after_drew {w w1 : World} (h : Below w.drew.heap.size w.drew w1) : Below w.heap.size w w1 := ((Below.refl _ w).drew).trans h
set_option maxHeartbeats 10000000 in
set_option maxRecDepth 100000 in
theorem num55 (k : Nat) (hk : k < 100) (w : World) : Calls Tryd.prog 55 #[.int .i64 k] w (Numbered w) := by
  by_cases h10 : k < 10
  · refine (num55a k h10 w).mono ?_
    rintro e w1 ⟨x, hx, rfl, hb⟩
    exact ⟨x, by omega, rfl, hb⟩
  obtain ⟨q, hq, hq10⟩ : ∃ q : Nat, IntKind.i64.wrap ((k : Int) / 10) = (q : Int) ∧ q < 10 := ⟨k / 10, by rw [IntWalk.i64_in _ (by omega)]; omega, by omega⟩
  have hc1 := fun w => conv_one w (IntKind.u8.wrap (IntKind.i64.wrap (48 + (k : Int).tmod 10)))
  have hc2 := fun w => conv_one_d w (IntKind.u8.wrap (IntKind.i64.wrap (48 + (k : Int).tmod 10)))
  go_enter Tryd.func55, Tryd.ntmps55
  go_wp2_with fail
  go_region_with (go_at_call 55; refine (num55a q hq10 _).mono ?_; rintro e w1 ⟨x1, hx1, rfl, hb1⟩; (try (have hc3 := conv_at (cell_after hb1))); have HB1 := Lib.hid hb1; clear hb1)
  all_goals
    clear hc1 hc2
    try clear hc3
    go_wp2
    go_ret
    first
      | exact ⟨_, by rw [ByteArray.size_append, hx1]; exact Nat.le_refl _, rfl, (after_drew HB1.out).alloc (after_drew HB1.out).size _⟩
      | exact ⟨_, by rw [ByteArray.size_append, hx1]; exact Nat.le_refl _, rfl, (belC w _).trans (HB1.out.mono (belC w _).size)⟩
      | (go_show; fail)
end Go.Proofs.YtoelcbfbpijfcaaDoor
