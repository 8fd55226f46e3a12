/- Contracts of the marks of the exact laws on chunks and on series, over this seat's translation. -/
import Derived.Test.YteiefngamccapaaK5
import Derived.Deep.RegionHeld3
namespace Go.Proofs.Yteiefngamccapaa
open Go.RowKit Go.Deep

/-- The marks that a list of n chunks is given. -/
def marksC (n : Nat) : List Chk := (List.range n).map fun i => (mk (1 + 4 * i), ((2 + 4 * i : Nat) : Int), ((3 + 4 * i : Nat) : Int), ((4 + 4 * i : Nat) : Int))
theorem marksC_len (n : Nat) : (marksC n).length = n := by simp [marksC]
theorem marksC_at {n i : Nat} (h : i < (marksC n).length) : (marksC n)[i] = (mk (1 + 4 * i), ((2 + 4 * i : Nat) : Int), ((3 + 4 * i : Nat) : Int), ((4 + 4 * i : Nat) : Int)) := by simp [marksC]

set_option maxHeartbeats 4000000 in
set_option maxRecDepth 100000 in
theorem markCs (base n : Nat) (v : Value) (xs : List Value) (hn : n ≤ 1048576) (w : World) (h : w.ownsRow base 85 4 v n xs) :
    Calls Try.prog 54 #[v, .int .i64 1] w fun e w' => e = .returned (.int .i64 ((1 + 4 * n : Nat) : Int)) ∧ w'.ownsRow base 85 4 v n (cellsG cC (marksC n)) ∧ w.grownBy w' v.ownBlock := by
  rcases h.2 with ⟨rfl, rfl⟩ | ⟨g, c, _, rfl, _⟩
  · go_enter Try.func54, Try.ntmps54
    go_wp2
    refine wp_loop_rounds 1 ?_
    rw [rounds_succ]
    go_wp2
    go_ret
    exact ⟨rfl, ⟨rfl, .inl ⟨rfl, rfl⟩⟩, World.grownBy.refl _ _⟩
  · have hml := marksC_len n
    have HM : Hid (LaidG base 85 4 cC g n c (marksC n) 0 w) := Lib.hid (LaidG.start h)
    have HML := Lib.hid hml
    have HDone := Lib.hid (fun (w1 : World) (hL : LaidG base 85 4 cC g n c (marksC n) n w1) => show w1.ownsRow base 85 4 (.slice (some ⟨g, 0, none⟩) n c) n (cellsG cC (marksC n)) from by
      have h3 := LaidG.done cC_len (l := marksC n) (g := g) (c := c) (wr := w1) (t := 85) (base := base) (by rw [hml]; exact hL)
      rwa [hml] at h3)
    clear h hml
    go_enter Try.func54, Try.ntmps54
    go_wp2
    go_loopw [1, 5] (fun q i wr => ∃ j : Nat, j ≤ n ∧ i = .int .i64 j ∧ q = .int .i64 ((1 + 4 * j : Nat) : Int) ∧ Hid (LaidG base 85 4 cC g n c (marksC n) j wr) ∧ Hid (w.grownBy wr (some g))) (fun _ i _ => n - (intOf i).toNat)
    case atStart => exact ⟨0, Nat.zero_le _, rfl, rfl, HM, Lib.hid (World.grownBy.refl _ _)⟩
    case round =>
      obtain ⟨j, hj, rfl, rfl, hL, hG⟩ := hrel
      by_cases hlt : j < n
      · have hlt' : j < (marksC n).length := by rw [HML.out]; exact hlt
        have hx : cC (marksC n)[j] = [.string (mk (1 + 4 * j)), .int .i64 ((2 + 4 * j : Nat) : Int), .int .i64 ((3 + 4 * j : Nat) : Int), .int .i64 ((4 + 4 * j : Nat) : Int)] := by rw [marksC_at hlt']; rfl
        have HS := Lib.hid (fun (w1 : World) (x0 x1 x2 x3 : Value) (h0 : cC (marksC n)[j] = [x0, x1, x2, x3]) (hL : LaidG base 85 4 cC g n c (marksC n) j w1) => hL.step4 hlt (fun _ => h0))
        obtain ⟨q, hq⟩ : ∃ q : Int, q = 1 + 4 * (j : Int) := ⟨_, rfl⟩
        rw [show ((2 + 4 * j : Nat) : Int) = q + 1 by omega, show ((3 + 4 * j : Nat) : Int) = q + 1 + 1 by omega, show ((4 + 4 * j : Nat) : Int) = q + 1 + 1 + 1 by omega] at hx
        rw [show ((1 + 4 * j : Nat) : Int) = q by omega]
        have hq1 : 0 ≤ q := by omega
        have hq2 : q ≤ 5000000 := by omega
        have HM1 := Lib.hid (fun W => mark86i q (1 + 4 * j) (by omega) (by omega) W)
        generalize mk (1 + 4 * j) = m at hx HM1
        have HQ := Lib.hid hq
        have HX := Lib.hid hx
        clear hq hx
        go_wp2_with fail
        refine (HM1.out _).mono ?_
        rintro e w2 ⟨rfl, hb2⟩
        have HL2 := Lib.hid (hL.out.below hb2)
        have HG2 := Lib.hid (gb_trans hG.out (gb_below hb2 (row := some g)))
        have HS2 := Lib.hid (HS.out w2 _ _ _ _ HX.out HL2.out)
        clear hb2 hL hG
        obtain ⟨⟨u0, t0⟩, f0⟩ := HL2.out.at hlt 0 (by decide)
        obtain ⟨⟨u1, t1⟩, f1⟩ := HL2.out.at hlt 1 (by decide)
        obtain ⟨⟨u2, t2⟩, f2⟩ := HL2.out.at hlt 2 (by decide)
        obtain ⟨⟨u3, t3⟩, f3⟩ := HL2.out.at hlt 3 (by decide)
        rw [Nat.add_zero] at t0 f0
        go_wp2
        go_roundw
        case rel => exact ⟨j + 1, by omega, by go_num, by have := HQ.out; go_num, HS2.out.1, Lib.hid (gb_trans HG2.out HS2.out.2)⟩
        case measure => simp [intOf]; omega
      · obtain rfl : j = n := by omega
        go_wp2
        go_ret
        exact ⟨rfl, HDone.out _ hL.out, hG.out⟩

set_option maxHeartbeats 4000000 in
set_option maxRecDepth 100000 in
theorem heldCs (n : Nat) (ao : Option Addr) (c : Nat) (hn : n ≤ 1048576) (w : World) (h : CRow w w.heap.size ao (marksC n)) :
    Calls Try.prog 55 #[.slice ao n c, .int .i64 1] w fun e w' => e = .returned (.int .i64 ((1 + 4 * n : Nat) : Int)) ∧ Below w.heap.size w w' := by
  have H := Lib.hid h
  have hml := Lib.hid (marksC_len n)
  clear h
  go_enter Try.func55, Try.ntmps55
  go_wp2
  go_loopw [1, 5] (fun q i wr => ∃ j : Nat, j ≤ n ∧ i = .int .i64 j ∧ q = .int .i64 ((1 + 4 * j : Nat) : Int) ∧ Hid (Below w.heap.size w wr)) (fun _ i _ => n - (intOf i).toNat)
  case atStart => exact ⟨0, Nat.zero_le _, rfl, rfl, Lib.hid (Below.refl _ _)⟩
  case round =>
    obtain ⟨j, hj, rfl, rfl, hB⟩ := hrel
    by_cases hlt : j < n
    · have hlt' : j < (marksC n).length := by rw [hml.out]; exact hlt
      obtain ⟨b, off, hao, hbl, c0, c1, c2, c3⟩ := (H.out.below hB.out).oneC hlt'
      subst hao
      rw [marksC_at hlt'] at c0 c1 c2 c3
      simp only at c0 c1 c2 c3
      obtain ⟨q, hq⟩ : ∃ q : Int, q = 1 + 4 * (j : Int) := ⟨_, rfl⟩
      rw [show ((2 + 4 * j : Nat) : Int) = q + 1 by omega] at c1
      rw [show ((3 + 4 * j : Nat) : Int) = q + 1 + 1 by omega] at c2
      rw [show ((4 + 4 * j : Nat) : Int) = q + 1 + 1 + 1 by omega] at c3
      rw [show ((1 + 4 * j : Nat) : Int) = q by omega]
      have hq1 : 0 ≤ q := by omega
      have hq2 : q ≤ 5000000 := by omega
      have HM1 := Lib.hid (fun W => mark86i q (1 + 4 * j) (by omega) (by omega) W)
      generalize mk (1 + 4 * j) = m at c0 HM1
      have HQ := Lib.hid hq
      have hbw : b < wr.heap.size := Nat.lt_of_lt_of_le hbl hB.out.size
      have C1 := Lib.hid c1
      have C2 := Lib.hid c2
      have C3 := Lib.hid c3
      clear hq c1 c2 c3
      have hss : (m.toList != m.toList) = false := by simp
      go_wp2_with fail
      go_region_held3 (fun w' => w'.cell? ⟨b, off + j * 4, none⟩ = some (.string m)) (assumption) (first | (go_at_call 78; refine (HM1.out _).mono ?_; rintro e w1 ⟨rfl, hb1⟩; have d0 := (hb1.cell (p := ⟨b, off + j * 4, none⟩) hbw).trans c0))
      have HB1 := Lib.hid (hB.out.drew.trans (hb1.mono hB.out.size))
      have d1 := (hb1.cell (p := ⟨b, off + j * 4 + 1, none⟩) hbw).trans C1.out
      have d2 := (hb1.cell (p := ⟨b, off + j * 4 + 2, none⟩) hbw).trans C2.out
      have d3 := (hb1.cell (p := ⟨b, off + j * 4 + 3, none⟩) hbw).trans C3.out
      clear hb1 c0 d0
      go_wp2
      go_roundw
      case rel => exact ⟨j + 1, by omega, by go_num, by have := HQ.out; go_num, HB1⟩
      case measure => simp [intOf]; omega
    · obtain rfl : j = n := by omega
      go_wp2
      go_ret
      exact ⟨rfl, hB.out⟩

theorem markSer (base n : Nat) (v : Value) (fl : Int) (xs : List Value) (hn : n ≤ 1048576) (w : World) (h : w.ownsRow base 85 4 v n xs) :
    Calls Try.prog 19 #[.agg #[v, .int .i64 fl], .int .i64 1] w fun e w' => e = .returned (.int .i64 ((1 + 4 * n : Nat) : Int)) ∧ w'.ownsRow base 85 4 v n (cellsG cC (marksC n)) ∧ w.grownBy w' v.ownBlock := by
  have HC := Lib.hid (markCs base n v xs hn (w.alloc (.cells #[v, .int .i64 fl] 29)) (h.alloc _))
  have HG := Lib.hid (gb_below ((Below.refl _ _).alloc (Nat.le_refl _) _) : w.grownBy (w.alloc (.cells #[v, .int .i64 fl] 29)) v.ownBlock)
  clear h
  go_enter Try.func19, Try.ntmps19
  go_wp2_with fail
  refine (HC.out).mono ?_
  rintro e w1 ⟨rfl, ho, hg⟩
  have HO := Lib.hid ho
  have HG2 := Lib.hid (HG.out.trans hg)
  clear ho hg
  go_wp2
  go_ret
  exact ⟨rfl, HO.out, HG2.out⟩

theorem heldSer (n : Nat) (ao : Option Addr) (c : Nat) (fl : Int) (hn : n ≤ 1048576) (w : World) (h : CRow w w.heap.size ao (marksC n)) :
    Calls Try.prog 20 #[.agg #[.slice ao n c, .int .i64 fl], .int .i64 1] w fun e w' => e = .returned (.int .i64 ((1 + 4 * n : Nat) : Int)) ∧ Below w.heap.size w w' := by
  have HB0 := Lib.hid ((Below.refl w.heap.size w).alloc (Nat.le_refl _) (.cells #[.slice ao n c, .int .i64 fl] 29))
  have HR := Lib.hid (GR.after h HB0.out)
  clear h
  go_enter Try.func20, Try.ntmps20
  go_wp2_with fail
  refine (heldCs n ao c hn _ HR.out).mono ?_
  rintro e w1 ⟨rfl, hb1⟩
  have HB1 := Lib.hid (HB0.out.trans (hb1.mono HB0.out.size))
  clear hb1
  obtain ⟨q, hq⟩ : ∃ q : Int, q = ((1 + 4 * n : Nat) : Int) := ⟨_, rfl⟩
  have hq0 : 0 ≤ q := by omega
  rw [← hq]
  have HQ := Lib.hid hq
  clear hq
  go_wp2
  go_ret
  exact ⟨show Ending.returned (.int .i64 q) = _ by rw [HQ.out], HB1.out⟩
end Go.Proofs.Yteiefngamccapaa
