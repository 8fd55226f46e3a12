/- Contracts of the laws' own small functions (big, sameLabels), over this seat's translation. -/
import Derived.Test.YtoelcbfbpijfcaaDoorLabMath
namespace Go.Proofs.YtoelcbfbpijfcaaDoor
open Go.RowKit Go.Deep

theorem ret_boolm {a b : Bool} (h : a = b) : Ending.returned (.bool a) = .returned (.bool b) := by rw [h]
theorem big14 (w : World) (ao bo : Option Addr) (n m c d : Nat) : Calls Tryd.prog 14 #[.slice ao n c, .slice bo m d] w fun e w' => e = .returned (.bool (decide (1048576 < n + m))) ∧ w = w' := by
  by_cases h1 : 1048576 < n
  · go_enter Tryd.func14, Tryd.ntmps14
    go_wp2
    go_ret
    exact ⟨ret_boolm (by simp; omega), rfl⟩
  · go_enter Tryd.func14, Tryd.ntmps14
    go_wp2
    go_ret
    exact ⟨ret_boolm (by rw [Bool.eq_iff_iff]; simp; omega), rfl⟩

theorem take_more {a b : List Lab} {k : Nat} (h : a.take k = b.take k) (ha : k < a.length) (hb : k < b.length) (e : a[k] = b[k]) : a.take (k + 1) = b.take (k + 1) := by
  rw [List.take_succ_eq_append_getElem ha, List.take_succ_eq_append_getElem hb, h, e]

def Samed (a b : List Lab) (w : World) (e : Ending) (w' : World) : Prop := ∃ r : Bool, (r = true ↔ a = b) ∧ e = .returned (.bool r) ∧ Below w.heap.size w w'
set_option maxHeartbeats 2000000 in
theorem same18 (ao bo : Option Addr) (c d : Nat) (a b : List Lab) (hn : a.length ≤ 1048576) (hm : b.length ≤ 1048576) (w : World) (h : LRow w w.heap.size ao a) (h2 : LRow w w.heap.size bo b) :
    Calls Tryd.prog 18 #[.slice ao a.length c, .slice bo b.length d] w (Samed a b w) := by
  have HA := Lib.hid h
  have HB := Lib.hid h2
  clear h h2
  by_cases hl : a.length = b.length
  case neg =>
    have HF : Hid (Samed a b w (.returned (.bool false)) w) := Lib.hid ⟨false, ⟨fun h => (by cases h), fun h => absurd (by rw [h]) hl⟩, rfl, Below.refl _ _⟩
    go_enter Tryd.func18, Tryd.ntmps18
    go_wp2
    go_ret
    exact HF.out
  have HL := Lib.hid hl
  have hle : a.length ≤ b.length := by omega
  have hge : b.length ≤ a.length := by omega
  rw [← hl]
  clear hl
  go_enter Tryd.func18, Tryd.ntmps18
  go_wp2
  go_loopw [13] (fun i wr => ∃ k : Nat, k ≤ a.length ∧ i = .int .i64 k ∧ Hid (a.take k = b.take k) ∧ Hid (Below w.heap.size w wr)) (fun i _ => a.length - (intOf i).toNat)
  case atStart => exact ⟨0, Nat.zero_le _, rfl, by simp [Hid], Below.refl _ _⟩
  case round =>
    obtain ⟨k, hk, rfl, hT, hb⟩ := hrel
    by_cases hlt : k < a.length
    · have hlt' : k < b.length := by omega
      obtain ⟨g, off, hao, hbl, hc⟩ := HA.out (by omega)
      obtain ⟨g', off', hao', hbl', hc'⟩ := HB.out (by omega)
      subst hao hao'
      have c0 := (hb.out.cell (p := ⟨g, off + k * 2, none⟩) hbl).trans (hc k hlt).1
      have c1 := (hb.out.cell (p := ⟨g, off + k * 2 + 1, none⟩) hbl).trans (hc k hlt).2
      have d0 := (hb.out.cell (p := ⟨g', off' + k * 2, none⟩) hbl').trans (hc' k hlt').1
      have d1 := (hb.out.cell (p := ⟨g', off' + k * 2 + 1, none⟩) hbl').trans (hc' k hlt').2
      have HS := Lib.hid (fun e => take_more hT.out hlt hlt' e)
      have HNe : Hid (a[k] ≠ b[k] → a ≠ b) := Lib.hid fun hne e => hne (by subst e; rfl)
      clear hc hc'
      generalize a[k] = x at c0 c1 HS HNe
      generalize b[k] = y at d0 d1 HS HNe
      obtain ⟨x1, x2⟩ := x
      obtain ⟨y1, y2⟩ := y
      dsimp only at c0 c1 d0 d1
      have hq := fun w => neq31 x1 x2 y1 y2 w
      by_cases e1 : x1 = y1 ∧ x2 = y2
      · obtain ⟨rfl, rfl⟩ := e1
        have e1 : (x1.toList == x1.toList) = true := by simp
        have e2 : (x2.toList == x2.toList) = true := by simp
        have HS2 := Lib.hid (HS.out rfl)
        go_wp2_with fail
        go_quiet (fail)
        go_wp2_with fail
        go_roundw
        case rel => exact ⟨k + 1, by omega, by go_num, HS2, below_drewN hb.out _⟩
        case measure => simp [intOf]; omega
      · have hbo : ((x1.toList == y1.toList) && (x2.toList == y2.toList)) = false := by
          cases h1 : (x1.toList == y1.toList) with
          | false => rfl
          | true =>
            cases h2 : (x2.toList == y2.toList) with
            | false => rfl
            | true => exact absurd ⟨eq_of_beq h1, eq_of_beq h2⟩ e1
        have hq' : ∀ w : World, (binOp .neq 31 (.agg #[.string x1, .string x2]) (.agg #[.string y1, .string y2])).run Tryd.prog w = .ok (.bool true) w := fun w => by rw [hq w, hbo]; rfl
        have HF : ∀ q, Hid (Samed a b w (.returned (.bool false)) (wr.drewN q)) := fun q => Lib.hid ⟨false, ⟨fun h => (by cases h), fun h => absurd h (HNe.out (fun e => e1 (by injection e with e1 e2; exact ⟨e1, e2⟩)))⟩, rfl, below_drewN hb.out _⟩
        have HF' := Lib.hid HF
        clear hq hbo e1 HF
        go_wp2_with fail
        go_quiet (fail)
        go_wp2_with fail
        go_ret
        exact (HF'.out _).out
    · obtain rfl : k = a.length := by omega
      have HT : Hid (Samed a b w (.returned (.bool true)) wr) := Lib.hid ⟨true, ⟨fun _ => by have := hT.out; rw [List.take_length, HL.out, List.take_length] at this; exact this, fun _ => rfl⟩, rfl, hb.out⟩
      go_wp2
      go_ret
      exact HT.out
end Go.Proofs.YtoelcbfbpijfcaaDoor
