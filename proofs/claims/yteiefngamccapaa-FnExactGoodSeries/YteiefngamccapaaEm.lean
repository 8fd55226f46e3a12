/- Contract of what tells whether a chunk other than the last one is empty, in the program, over this seat's translation. -/
import Derived.Test.YteiefngamccapaaSt
import Derived.Test.YteiefngamccapaaSeMath
namespace Go.Proofs.Yteiefngamccapaa
open Go.RowKit Go.Deep

set_option maxHeartbeats 2000000 in
set_option maxRecDepth 100000 in
theorem emAh (ao : Option Addr) (cap : Nat) (l : List Chk) (hn : l.length ≤ 1048576) (w : World) (h : CRow w w.heap.size ao l) :
    Calls Try.prog 49 #[.slice ao l.length cap] w fun e w' => e = .returned (.bool (emB l)) ∧ w' = w := by
  have H := Lib.hid h
  have HNo := Lib.hid (fun (k : Nat) (h : emTo l k) (hk : l.length ≤ k + 1) => emB_no h hk)
  have HYes := Lib.hid (fun (k : Nat) (h : k + 1 < l.length) (hm : mF l k = 0) => emB_yes h hm)
  generalize emB l = g at HNo HYes ⊢
  clear h
  go_enter Try.func49, Try.ntmps49
  go_wp2
  go_loopw [3] (fun i wr => ∃ k : Nat, k ≤ l.length ∧ i = .int .i64 ((k + 1 : Nat) : Int) ∧ wr = w ∧ Hid (emTo l k)) (fun i _ => l.length - (intOf i).toNat)
  case atStart => exact ⟨0, Nat.zero_le _, rfl, rfl, Lib.hid (emTo_zero l)⟩
  case round =>
    obtain ⟨k, hk, rfl, rfl, hE⟩ := hrel
    by_cases hlt : k + 1 < l.length
    · obtain ⟨b, off, hao, hbl, hc0, hc1, hc2, hc3⟩ := H.out.oneC (show k < l.length by omega)
      subst hao
      rw [mF_at (show k < l.length by omega)] at hc1
      clear hc0 hc2 hc3
      have HS := Lib.hid (fun h => emTo_succ hE.out (fun _ => h))
      have HY := Lib.hid (HYes.out k hlt)
      generalize mF l k = m at hc1 HS HY
      by_cases hm : m = 0
      · have hg := Lib.hid (HY.out hm)
        subst hm
        go_wp2
        go_ret
        exact ⟨ret_bool hg.out.symm, rfl⟩
      · have HS2 := Lib.hid (HS.out hm)
        have hmb : (m == 0) = false := beq_eq_false_iff_ne.2 hm
        go_wp2
        go_roundw
        case rel => exact ⟨k + 1, by omega, by go_num, by trivial, HS2⟩
        case measure => simp [intOf]; omega
    · have hg := Lib.hid (HNo.out k hE.out (by omega))
      go_wp2
      go_ret
      exact ⟨ret_bool hg.out.symm, rfl⟩

end Go.Proofs.Yteiefngamccapaa
