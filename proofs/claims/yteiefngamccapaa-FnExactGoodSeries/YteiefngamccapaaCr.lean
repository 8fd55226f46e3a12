/- How lists of chunks lie in memory, and the contracts of the exact laws' helpers over them, over this seat's translation. -/
import Derived.Test.YteiefngamccapaaGr
import Derived.Test.YteiefngamccapaaSh
import Derived.Test.YteiefngamccapaaMt
import Derived.StillTailTactics
namespace Go.Proofs.Yteiefngamccapaa
open Go.RowKit Go.Deep

def cC (c : Chk) : List Value := [.string c.1, .int .i64 c.2.1, .int .i64 c.2.2.1, .int .i64 c.2.2.2]
theorem cC_len (c : Chk) : (cC c).length = 4 := rfl
theorem cC_one {l : List Chk} : ∀ u ∈ cellsG cC l, u.oneCell' = true := by
  intro u hu
  simp [cellsG, cC] at hu
  obtain ⟨s, a, b, c, _, rfl | rfl | rfl | rfl⟩ := hu <;> rfl
abbrev CRow (w : World) (B : Nat) (ao : Option Addr) (l : List Chk) : Prop := GR 4 cC w B ao l
theorem GR.oneC {w : World} {B : Nat} {ao : Option Addr} {l : List Chk} {k : Nat} (h : GR 4 cC w B ao l) (hk : k < l.length) : ∃ b off, ao = some ⟨b, off, none⟩ ∧ b < B ∧
    w.cell? ⟨b, off + k * 4, none⟩ = some (.string (l[k]'hk).1) ∧ w.cell? ⟨b, off + k * 4 + 1, none⟩ = some (.int .i64 (l[k]'hk).2.1) ∧ w.cell? ⟨b, off + k * 4 + 2, none⟩ = some (.int .i64 (l[k]'hk).2.2.1) ∧ w.cell? ⟨b, off + k * 4 + 3, none⟩ = some (.int .i64 (l[k]'hk).2.2.2) := by
  obtain ⟨b, off, e, hb, hc⟩ := h (by omega)
  exact ⟨b, off, e, hb, hc k hk 0 _ rfl, hc k hk 1 _ rfl, hc k hk 2 _ rfl, hc k hk 3 _ rfl⟩
/-- The texts of chunks are not long. -/
def FitC (l : List Chk) (m : Nat) : Prop := ∀ c ∈ l, c.1.size ≤ m
theorem FitC.at {l : List Chk} {m : Nat} (h : FitC l m) {k : Nat} (hk : k < l.length) : (l[k]'hk).1.size ≤ m := h _ (List.getElem_mem hk)
def fitTo (l : List Chk) (m k : Nat) : Prop := ∀ i (h : i < l.length), i < k → (l[i]'h).1.size ≤ m
theorem fitTo_zero (l : List Chk) (m : Nat) : fitTo l m 0 := fun i _ h => absurd h (by omega)
theorem fitTo_succ {l : List Chk} {m k : Nat} (h : fitTo l m k) (hk : ∀ h : k < l.length, (l[k]'h).1.size ≤ m) : fitTo l m (k + 1) := fun i hi hik => by
  by_cases e : i = k
  · subst e; exact hk hi
  · exact h i hi (by omega)
theorem fitTo_all {l : List Chk} {m : Nat} (h : fitTo l m l.length) : FitC l m := fun c hc => by
  obtain ⟨i, hi, rfl⟩ := List.getElem_of_mem hc
  exact h i hi hi

set_option maxHeartbeats 2000000 in
set_option maxRecDepth 100000 in
theorem szCs (ao : Option Addr) (cap : Nat) (l : List Chk) (hn : l.length ≤ maxLen) (hm : FitC l maxLen) (left : Int) (h0 : 0 ≤ left) (h1 : left ≤ 1048576) (w : World) (h : CRow w w.heap.size ao l) :
    Calls Try.prog 45 #[.slice ao l.length cap, .int .i64 left] w fun e w' => (∃ r : Int, e = .returned (.int .i64 r) ∧ r ≤ left ∧ (r = -1 ∨ (0 ≤ r ∧ l.length ≤ 1048576 ∧ FitC l 1048576))) ∧ Below w.heap.size w w' := by
  unfold maxLen at hn
  have H := Lib.hid h
  have HM := Lib.hid hm
  clear h hm
  by_cases c1 : left < l.length
  · go_enter Try.func45, Try.ntmps45
    go_wp2
    go_ret
    exact ⟨⟨-1, rfl, by omega, .inl rfl⟩, Below.refl _ _⟩
  go_enter Try.func45, Try.ntmps45
  go_wp2
  go_loopw [1, 5] (fun q i wr => ∃ (k : Nat) (r : Int), k ≤ l.length ∧ i = .int .i64 k ∧ q = .int .i64 r ∧ 0 ≤ r ∧ r ≤ left ∧ Hid (fitTo l 1048576 k) ∧ Hid (Below w.heap.size w wr)) (fun _ i _ => l.length - (intOf i).toNat)
  case atStart => exact ⟨0, _, Nat.zero_le _, rfl, rfl, by omega, by omega, Lib.hid (fitTo_zero l _), Lib.hid (Below.refl _ _)⟩
  case round =>
    obtain ⟨k, r, hk, rfl, rfl, hr0, hr1, hF, hB⟩ := hrel
    by_cases hlt : k < l.length
    · obtain ⟨b, off, hao, hbl, hc0, hc1, hc2, hc3⟩ := (H.out.below hB.out).oneC hlt
      subst hao
      have hsz := HM.out.at hlt
      have HS := Lib.hid (fun (h : l[k].1.size ≤ 1048576) => fitTo_succ hF.out (fun _ : k < l.length => h))
      generalize l[k] = x at hc0 hc1 hc2 hc3 hsz HS
      obtain ⟨s, x1, x2, x3⟩ := x
      simp only at hc0 hc1 hc2 hc3 hsz HS
      go_wp2_with fail
      refine (sz53 s x1 x2 x3 hsz r hr0 (by omega) _).mono ?_
      rintro e w1 ⟨⟨r', rfl, hrl, hr⟩, hb1⟩
      have HB1 := Lib.hid (hB.out.trans (hb1.mono hB.out.size))
      clear hb1 hc0 hc1 hc2 hc3
      rcases hr with ⟨rfl, hbig⟩ | ⟨hr0', hsm⟩
      · go_wp2
        go_ret
        exact ⟨⟨-1, rfl, by omega, .inl rfl⟩, HB1.out⟩
      · have HS2 := Lib.hid (HS.out (by omega))
        go_wp2
        go_roundw
        case rel => exact ⟨k + 1, r', by omega, by go_num, rfl, hr0', by omega, HS2, HB1⟩
        case measure => simp [intOf]; omega
    · obtain rfl : k = l.length := by omega
      go_wp2
      go_ret
      exact ⟨⟨r, rfl, hr1, .inr ⟨hr0, by omega, fitTo_all hF.out⟩⟩, hB.out⟩

/-- What a copy comes to: a row of the call's own that holds the chunks. -/
def MadeC (base : Nat) (l : List Chk) (w : World) (e : Ending) (w' : World) : Prop :=
  ∃ v, e = .returned v ∧ w'.ownsRow base 85 4 v l.length (cellsG cC l) ∧ Below w.heap.size w w'
theorem made_crow {w w' : World} {base : Nat} {l : List Chk} {e : Ending} (h : MadeC base l w e w') : ∃ ao c, e = .returned (.slice ao l.length c) ∧ w'.ownsRow base 85 4 (.slice ao l.length c) l.length (cellsG cC l) ∧ CRow w' w'.heap.size ao l ∧ Below w.heap.size w w' := by
  obtain ⟨v, rfl, ho, hb⟩ := h
  obtain ⟨ao, c, rfl⟩ := own_slice ho
  exact ⟨ao, c, rfl, ho, GR.of_own cC_len ho, hb⟩
theorem Try.infoC : (Try.prog.info? 85).map (fun i => (i.zero, i.size, i.bytes)) = some (some (.agg #[.string ⟨#[]⟩, .int .i64 0, .int .i64 0, .int .i64 0]), 4, 40) := by kernel_rfl

set_option maxHeartbeats 2000000 in
set_option maxRecDepth 100000 in
theorem toCs (ao : Option Addr) (cap : Nat) (l : List Chk) (hn : l.length ≤ 1048576) (w : World) (h : CRow w w.heap.size ao l) :
    Calls Try.prog 47 #[.slice ao l.length cap] w (MadeC w.heap.size l w) := by
  have H := Lib.hid h
  clear h
  obtain ⟨i0, hi0, hz0, hz1, hz2⟩ := info_parts Try.infoC
  go_enter Try.func47, Try.ntmps47
  go_wp2_with (refine wpList_make_full _ rfl (.tmp 6) (.tmp 6) 27 rfl w.heap.size 85 i0 _ 4 Try.underlying27 hi0 hz0 hz1 _ _ _ _ l.length rfl rfl rfl rfl (by rw [hz2]; omega) (by unfold maxLen; omega) (Nat.le_refl _) ?_; intro w1 hown1 hg1; have HO := Lib.hid hown1; have HG := Lib.hid hg1; clear hown1 hg1)
  go_loopw [4] (fun i wr => ∃ k : Nat, k ≤ l.length ∧ i = .int .i64 k ∧ Hid (LaidG w.heap.size 85 4 cC w.heap.size l.length l.length l k wr) ∧ Hid (Below w.heap.size w wr)) (fun i _ => l.length - (intOf i).toNat)
  case atStart => exact ⟨0, Nat.zero_le _, rfl, Lib.hid (LaidG.start HO.out), (Below.refl _ _).grown HG.out (Nat.le_refl _) (fun _ h => by cases h)⟩
  case round =>
    obtain ⟨k, hk, rfl, hL, hb⟩ := hrel
    by_cases hlt : k < l.length
    · obtain ⟨b, off, hao, hbl, hc0, hc1, hc2, hc3⟩ := (H.out.below hb.out).oneC hlt
      subst hao
      have HS := Lib.hid (fun (w1 : World) (x0 x1 x2 x3 : Value) (hx : cC l[k] = [x0, x1, x2, x3]) (h : LaidG w.heap.size 85 4 cC w.heap.size l.length l.length l k w1) => (h.step4 hlt (fun _ => hx)).1)
      have hx0 : cC l[k] = [.string l[k].1, .int .i64 l[k].2.1, .int .i64 l[k].2.2.1, .int .i64 l[k].2.2.2] := rfl
      generalize l[k] = x at hc0 hc1 hc2 hc3 HS hx0
      obtain ⟨s, x1, x2, x3⟩ := x
      simp only at hc0 hc1 hc2 hc3 HS hx0
      have HX := Lib.hid hx0
      clear hx0
      go_wp2_with fail
      refine (to54 s x1 x2 x3 _).mono ?_
      rintro e w2 ⟨rfl, hb2⟩
      have HL := Lib.hid (hL.out.below hb2)
      have HB := Lib.hid (hb.out.trans (hb2.mono hb.out.size))
      clear hb2 hc0 hc1 hc2 hc3
      obtain ⟨⟨u0, t0⟩, f0⟩ := HL.out.at hlt 0 (by decide)
      obtain ⟨⟨u1, t1⟩, f1⟩ := HL.out.at hlt 1 (by decide)
      obtain ⟨⟨u2, t2⟩, f2⟩ := HL.out.at hlt 2 (by decide)
      obtain ⟨⟨u3, t3⟩, f3⟩ := HL.out.at hlt 3 (by decide)
      rw [Nat.add_zero] at t0 f0
      go_wp2
      go_roundw
      case rel => exact ⟨k + 1, by omega, by go_num, HS.out _ _ _ _ _ HX.out HL.out, (((HB.out.setCell (Nat.le_refl _) _).setCell (Nat.le_refl _) _).setCell (Nat.le_refl _) _).setCell (Nat.le_refl _) _⟩
      case measure => simp [intOf]; omega
    · obtain rfl : k = l.length := by omega
      go_wp2
      go_ret
      exact ⟨_, rfl, hL.out.done cC_len, hb.out⟩

set_option maxHeartbeats 2000000 in
set_option maxRecDepth 100000 in
theorem eqCs (ao bo : Option Addr) (c d : Nat) (l : List Chk) (hn : l.length ≤ 1048576) (w : World) (ha : CRow w w.heap.size ao l) (hb : CRow w w.heap.size bo l) :
    Calls Try.prog 52 #[.slice ao l.length c, .slice bo l.length d] w fun e w' => e = .returned (.bool true) ∧ Below w.heap.size w w' := by
  have HA := Lib.hid ha
  have HB := Lib.hid hb
  clear ha hb
  go_enter Try.func52, Try.ntmps52
  go_wp2
  go_loopw [5] (fun i wr => ∃ k : Nat, k ≤ l.length ∧ i = .int .i64 k ∧ Hid (Below w.heap.size w wr)) (fun i _ => l.length - (intOf i).toNat)
  case atStart => exact ⟨0, Nat.zero_le _, rfl, Below.refl _ _⟩
  case round =>
    obtain ⟨k, hk, rfl, hb⟩ := hrel
    by_cases hlt : k < l.length
    · obtain ⟨b, off, hao, hbl, hc0, hc1, hc2, hc3⟩ := (HA.out.below hb.out).oneC hlt
      obtain ⟨b', off', hao', hbl', hd0, hd1, hd2, hd3⟩ := (HB.out.below hb.out).oneC hlt
      subst hao hao'
      generalize l[k] = x at hc0 hc1 hc2 hc3 hd0 hd1 hd2 hd3
      obtain ⟨s, x1, x2, x3⟩ := x
      simp only at hc0 hc1 hc2 hc3 hd0 hd1 hd2 hd3
      go_wp2
      go_still_tail 8, (by kernel_rfl)
      change wpList _ _ _ _ _ wr.drew
      have HB2 := Lib.hid hb.out.drew
      go_wp2_with fail
      refine (eq56 s x1 x2 x3 _).mono ?_
      rintro e w2 ⟨rfl, hb2⟩
      have HB3 := Lib.hid (HB2.out.trans (hb2.mono HB2.out.size))
      clear hb2
      go_wp2
      go_roundw
      case rel => exact ⟨k + 1, by omega, by go_num, HB3⟩
      case measure => simp [intOf]; omega
    · go_wp2
      go_ret
      exact ⟨rfl, hb.out⟩
end Go.Proofs.Yteiefngamccapaa
