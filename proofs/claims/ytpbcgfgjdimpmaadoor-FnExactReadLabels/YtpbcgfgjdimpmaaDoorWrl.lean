/- The walk of the law FnExactReadLabels: at every text, in a world that holds the program's tables, its call returns true and writes nothing that was there. -/
import Derived.Test.YtpbcgfgjdimpmaaDoorSplitl
import Derived.Test.YtpbcgfgjdimpmaaDoorWk
namespace Go.Proofs.YtpbcgfgjdimpmaaDoor
open Go.RowKit Go.Deep

theorem own_apart {w1 w2 : World} {b1 b2 : Nat} {e1 e2 : TypeId} {s1 s2 n1 n2 : Nat} {v1 v2 : Value} {x1 x2 : List Value} (h1 : w1.ownsRow b1 e1 s1 v1 n1 x1) (h2 : w2.ownsRow b2 e2 s2 v2 n2 x2) (h : w1.heap.size ≤ b2) :
    (v1.ownBlock = none ∨ v1.ownBlock ≠ v2.ownBlock) ∧ (v2.ownBlock = none ∨ v2.ownBlock ≠ v1.ownBlock) := by
  have hne : ∀ k, v1.ownBlock = some k → v2.ownBlock ≠ some k := by
    intro k hk hk2
    have a := (h1.lt k hk).2
    have b := (h2.lt k hk2).1
    omega
  constructor
  · cases h1' : v1.ownBlock with
    | none => exact .inl rfl
    | some k => exact .inr (fun e => hne k h1' e.symm)
  · cases h2' : v2.ownBlock with
    | none => exact .inl rfl
    | some k => exact .inr (fun e => hne k e.symm h2')

theorem below_marked {w w1 w2 : World} {base : Nat} {e : TypeId} {size n : Nat} {v : Value} {xs : List Value} (hb : Below w.heap.size w w1) (ho : w1.ownsRow base e size v n xs) (hg : w1.grownBy w2 v.ownBlock) (hbase : w.heap.size ≤ base) : Below w.heap.size w w2 :=
  hb.grown hg hb.size (fun k hk => Nat.le_trans hbase (ho.lt k hk).1)
theorem good_fit {l : List Lab} (h : goodB l = true) : Fit l := ⟨by have := good_len h; omega, fun x hx => by
  obtain ⟨k, hk, rfl⟩ := List.getElem_of_mem hx
  have := good_at h hk
  omega⟩
theorem readEnd_fit {D : List UInt8} {r : Bool} {l : List Lab} (h1 : r = true → Reads D l) (h0 : r = false → l = [] ∧ ∀ o, ¬ Reads D o) : Fit l := by
  cases r
  · rw [(h0 rfl).1]; exact ⟨by simp, by simp⟩
  · exact good_fit (h1 rfl).1
theorem readEnd_same {D : List UInt8} {r r' : Bool} {l l' : List Lab} (h1 : r = true → Reads D l) (h0 : r = false → l = [] ∧ ∀ o, ¬ Reads D o) (h1' : r' = true → Reads D l') (h0' : r' = false → l' = [] ∧ ∀ o, ¬ Reads D o) : r = r' ∧ l = l' := by
  cases r <;> cases r'
  · exact ⟨rfl, by rw [(h0 rfl).1, (h0' rfl).1]⟩
  · exact absurd (h1' rfl) ((h0 rfl).2 _)
  · exact absurd (h1 rfl) ((h0' rfl).2 _)
  · exact ⟨rfl, reads_unique (h1 rfl) (h1' rfl)⟩

set_option maxHeartbeats 8000000 in
set_option maxRecDepth 100000 in
theorem walk_fnExactReadLabels (w : World) (s : ByteArray) (hT : Tabs w ∧ MaxC w) (hs : s.size ≤ maxLen) :
    Calls Tryd.prog 6 #[.string s] w fun e w' => e = .returned (.bool true) ∧ Below w.heap.size w w' := by
  unfold maxLen at hs
  have HT := Lib.hid hT
  clear hT
  by_cases hbig : 1048576 < s.size
  · go_enter Tryd.func6, Tryd.ntmps6
    go_wp2
    go_ret
    exact ⟨rfl, Below.refl _ _⟩
  go_enter Tryd.func6, Tryd.ntmps6
  go_wp2_with fail
  refine (read36 s (by omega) _).mono ?_
  rintro e w3 ⟨v3, r3, l3, rfl, ho3, hb3, y3, n3⟩
  obtain ⟨a3, c3, rfl⟩ := own_slice ho3
  have HW := Lib.hid ho3
  have HB := Lib.hid hb3
  have HY := Lib.hid y3
  have HN := Lib.hid n3
  clear ho3 hb3 y3 n3
  go_wp2_with fail
  refine (read20 s (by omega) _ (HT.out.1.below' HB.out) (HT.out.2.below' HB.out)).mono ?_
  rintro e w5 ⟨v5, r5, l5, rfl, ho5, hb5, y5, n5⟩
  obtain ⟨rfl, rfl⟩ := readEnd_same HY.out HN.out y5 n5
  have hFR := readEnd_fit y5 n5
  have hlr := hFR.1
  obtain ⟨a5, c5, rfl⟩ := own_slice ho5
  have z5 : w.heap.size ≤ w3.heap.size := HB.out.size
  have AWG := Lib.hid (own_apart HW.out ho5 (Nat.le_refl _))
  replace HB := Lib.hid (HB.out.trans (hb5.mono HB.out.size))
  replace HW := Lib.hid (own_below HW.out hb5)
  have HG := Lib.hid ho5
  clear ho5 hb5 y5 n5
  have hgg : (r3 != r3) = false := by cases r3 <;> rfl
  go_wp2_with fail
  refine (eq44 a5 a3 c5 c3 l3 hFR w5 (LRow.of_own HG.out).2 (LRow.of_own HW.out).2).mono ?_
  rintro e w6 ⟨rfl, hb6⟩
  replace HB := Lib.hid (HB.out.trans (hb6.mono HB.out.size))
  replace HW := Lib.hid (own_below HW.out hb6)
  replace HG := Lib.hid (own_below HG.out hb6)
  clear hb6
  go_wp2_with fail
  refine (mark45 _ l3.length 1 _ _ hlr (by omega) w6 HG.out).mono ?_
  rintro e w11 ⟨rfl, ho11, hg11⟩
  replace HB := Lib.hid (below_marked HB.out HG.out hg11 z5)
  replace HW := Lib.hid (HW.out.kept hg11 AWG.out.1)
  have HM := Lib.hid ho11
  clear ho11 hg11 HG
  go_wp2_with fail
  refine (held46 l3.length 1 a5 c5 hlr (by omega) w11 (LRow.of_own HM.out).2).mono ?_
  rintro e w12 ⟨rfl, hb12⟩
  replace HB := Lib.hid (HB.out.trans (hb12.mono HB.out.size))
  replace HW := Lib.hid (own_below HW.out hb12)
  replace HM := Lib.hid (own_below HM.out hb12)
  clear hb12
  go_wp2_with fail
  refine (read20 s (by omega) _ (HT.out.1.below' HB.out) (HT.out.2.below' HB.out)).mono ?_
  rintro e w14 ⟨v14, r14, l14, rfl, ho14, hb14, y14, n14⟩
  obtain ⟨rfl, rfl⟩ := readEnd_same HY.out HN.out y14 n14
  obtain ⟨a14, c14, rfl⟩ := own_slice ho14
  replace HB := Lib.hid (HB.out.trans (hb14.mono HB.out.size))
  replace HW := Lib.hid (own_below HW.out hb14)
  replace HM := Lib.hid (own_below HM.out hb14)
  have HL14 := Lib.hid (LRow.of_own ho14).2
  clear ho14 hb14 y14 n14
  go_wp2_with fail
  refine (eq44 a14 a3 c14 c3 l3 hFR w14 HL14.out (LRow.of_own HW.out).2).mono ?_
  rintro e w15 ⟨rfl, hb15⟩
  replace HB := Lib.hid (HB.out.trans (hb15.mono HB.out.size))
  replace HM := Lib.hid (own_below HM.out hb15)
  clear hb15 HL14 HW
  go_wp2_with fail
  refine (held46 l3.length 1 a5 c5 hlr (by omega) w15 (LRow.of_own HM.out).2).mono ?_
  rintro e w16 ⟨rfl, hb16⟩
  replace HB := Lib.hid (HB.out.trans (hb16.mono HB.out.size))
  clear hb16
  go_wp2
  go_ret
  exact ⟨rfl, HB.out⟩
end Go.Proofs.YtpbcgfgjdimpmaaDoor
