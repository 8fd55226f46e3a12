/- Contracts of the two helpers of the exact laws on lists of float64, over this seat's translation: a copy of a list holds the same bits in new memory, and two lists of the same bits are found the same. -/
import Derived.Test.YtkpfjjkblfjodaaSame
import Derived.Test.YtkpfjjkblfjodaaSums
import Derived.Deep.OwnRows
import Derived.Deep.QuietTactic
import Derived.BigQuiet
namespace Go.Proofs.Ytkpfjjkblfjodaa
open Go.RowKit Go.Deep

theorem Try.info24 : (Try.prog.info? 24).map (fun i => (i.zero, i.size, i.bytes)) = some (some (.float .f64 0), 1, 8) := by kernel_rfl

theorem run_store_float {P : Program} (a : Addr) (m : Mode) (w : World) (x : Nat) : (store a (.float .f64 x) m).run P w = stored P w a (.float .f64 x) m := run_store P w a _ m rfl

theorem copy_step {w wr : World} {xs : List Nat} {k : Nat} (hk : k < xs.length) (hr : wr.rowIs w.heap.size 24 xs.length (fun j => .float .f64 (if j < k then xs.getD j 0 else 0))) (hb : Below w.heap.size w wr) :
    (wr.setCell ⟨w.heap.size, k, none⟩ (.float .f64 (xs.getD k 0))).rowIs w.heap.size 24 xs.length (fun j => .float .f64 (if j < k + 1 then xs.getD j 0 else 0)) ∧ Below w.heap.size w (wr.setCell ⟨w.heap.size, k, none⟩ (.float .f64 (xs.getD k 0))) := by
  refine ⟨(hr.set k _).congr fun i hi => ?_, hb.setCell (Nat.le_refl _) _⟩
  by_cases e : i = k
  · subst e; simp
  · rw [if_neg e]
    by_cases h1 : i < k
    · rw [if_pos h1, if_pos (by omega)]
    · rw [if_neg h1, if_neg (by omega)]

set_option maxHeartbeats 1000000 in
theorem copy42 (w : World) (ao : Option Addr) (cap : Nat) (xs : List Nat) (h : FRow w ao xs) (hn : xs.length ≤ 1048576) :
    Calls Try.prog 42 #[.slice ao xs.length cap] w fun e w' => e = .returned (.slice (some ⟨w.heap.size, 0, none⟩) xs.length xs.length) ∧ w'.rowIs w.heap.size 24 xs.length (fun i => .float .f64 (xs.getD i 0)) ∧ Below w.heap.size w w' := by
  have H := Lib.hid h
  clear h
  have hmk := run_make_row' (P := Try.prog) 36 24 (.float .f64 0) 8 Try.underlying36 Try.info24 rfl .i64 .i64 xs.length (by omega) (by omega)
  go_enter Try.func42, Try.ntmps42
  go_wp2
  clear hmk
  go_loopw [4] (fun i wr => ∃ k : Nat, k ≤ xs.length ∧ i = .int .i64 k ∧ Hid (wr.rowIs w.heap.size 24 xs.length (fun j => .float .f64 (if j < k then xs.getD j 0 else 0)) ∧ Below w.heap.size w wr)) (fun i _ => xs.length - (intOf i).toNat)
  case atStart => exact ⟨0, Nat.zero_le _, rfl, Lib.hid ⟨(World.rowIs_made _ _ _ _).congr fun i hi => by simp, (Below.refl _ _).alloc (Nat.le_refl _) _⟩⟩
  case round =>
    obtain ⟨k, hk, rfl, hR⟩ := hrel
    by_cases hlt : k < xs.length
    · obtain ⟨b, off, hao, hb, hc⟩ := H.out.rows (by omega)
      subst hao
      have hck : wr.cell? ⟨b, off + k, none⟩ = some (.float .f64 (xs.getD k 0)) := (hR.out.2.cell (p := ⟨b, off + k, none⟩) hb).trans (hc k hlt)
      have hto := hR.out.1.cell hlt
      have hfz := hR.out.1.frozen k
      have hs := Lib.hid (copy_step hlt hR.out.1 hR.out.2)
      clear hc
      generalize xs.getD k 0 = x at hck hs
      have hst := fun (a : Addr) (m : Mode) (w : World) => run_store_float (P := Try.prog) a m w x
      go_wp2
      go_roundw
      case rel => exact ⟨k + 1, by omega, by go_num, hs⟩
      case measure => simp [intOf]; omega
    · go_wp2
      go_ret
      refine ⟨rfl, hR.out.1.congr fun i hi => ?_, hR.out.2⟩
      rw [if_pos (by omega)]

theorem frow_of {w : World} {b : Nat} {xs : List Nat} (hx : ∀ x ∈ xs, x < 18446744073709551616) (h : w.rowIs b 24 xs.length (fun i => .float .f64 (xs.getD i 0))) : FRow w (some ⟨b, 0, none⟩) xs :=
  ⟨hx, fun _ => ⟨b, 0, rfl, h.lt, fun i hi => by rw [Nat.zero_add]; exact h.cell hi⟩⟩

theorem FRow.below {w w' : World} {ao : Option Addr} {xs : List Nat} (h : FRow w ao xs) (hb : Below w.heap.size w w') : FRow w' ao xs :=
  ⟨h.wf, fun hp => by
    obtain ⟨b, off, e, hl, hc⟩ := h.rows hp
    exact ⟨b, off, e, Nat.lt_of_lt_of_le hl hb.size, fun i hi => (hb.cell (p := ⟨b, off + i, none⟩) hl).trans (hc i hi)⟩⟩

theorem FRow.drewN {w : World} {ao : Option Addr} {xs : List Nat} (h : FRow w ao xs) (q : Nat) : FRow (w.drewN q) ao xs :=
  ⟨h.wf, fun hp => by
    obtain ⟨b, off, e, hl, hc⟩ := h.rows hp
    exact ⟨b, off, e, by simpa using hl, fun i hi => by simpa using hc i hi⟩⟩

set_option maxHeartbeats 1000000 in
theorem eq43 (w : World) (ao bo : Option Addr) (c d : Nat) (xs : List Nat) (ha : FRow w ao xs) (hb : FRow w bo xs) (hn : xs.length ≤ 1048576) :
    Calls Try.prog 43 #[.slice ao xs.length c, .slice bo xs.length d] w fun e w' => e = .returned (.bool true) ∧ ∃ q, w' = w.drewN q := by
  have HA := Lib.hid ha
  have HB := Lib.hid hb
  clear ha hb
  go_enter Try.func43, Try.ntmps43
  go_wp2
  go_loopw [5] (fun i wr => ∃ k q : Nat, k ≤ xs.length ∧ i = .int .i64 k ∧ wr = w.drewN q) (fun i _ => xs.length - (intOf i).toNat)
  case atStart => exact ⟨0, 0, Nat.zero_le _, rfl, rfl⟩
  case round =>
    obtain ⟨k, q, hk, rfl, hw⟩ := hrel
    by_cases hlt : k < xs.length
    · obtain ⟨b, off, hao, hbl, hc⟩ := HA.out.rows (by omega)
      obtain ⟨b', off', hao', hbl', hc'⟩ := HB.out.rows (by omega)
      subst hao hao'
      have hck : wr.cell? ⟨b, off + k, none⟩ = some (.float .f64 (xs.getD k 0)) := by rw [hw]; simpa using hc k hlt
      have hck' : wr.cell? ⟨b', off' + k, none⟩ = some (.float .f64 (xs.getD k 0)) := by rw [hw]; simpa using hc' k hlt
      have HW := Lib.hid hw
      clear hc hc' hw
      generalize xs.getD k 0 = x at hck hck'
      go_wp2
      go_quiet ((go_at_call 41; exact Calls.quiet_of_same ((same41 _ _).mono fun _ _ h => ⟨h.1, h.2.symm⟩)))
      go_wp2
      go_roundw
      case rel => exact ⟨k + 1, q + nq, by omega, by go_num, by rw [HW.out, World.drewN_drewN]⟩
      case measure => simp [intOf]; omega
    · have HW := Lib.hid hw
      clear hw
      go_wp2
      go_ret
      exact ⟨rfl, q, HW.out⟩
end Go.Proofs.Ytkpfjjkblfjodaa
