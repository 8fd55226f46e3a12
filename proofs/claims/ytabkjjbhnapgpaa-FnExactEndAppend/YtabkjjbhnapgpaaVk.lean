/- Contract of the program's ledger of marks: the readings, and whether all is good; over this seat's translation. -/
import Derived.Test.YtabkjjbhnapgpaaVr
import Derived.Test.YtabkjjbhnapgpaaSg
import Derived.Deep.RegionLaw
import Derived.Deep.RegionHeld3
namespace Go.Proofs.Ytabkjjbhnapgpaa
open Go.RowKit Go.Deep Go.ChangeShapes Go.WideShapes Go.ChangeAt

theorem Try.infoR : (Try.prog.info? 85).map (fun i => (i.zero, i.size, i.bytes)) = some (some (.agg #[.int .i64 0, .slice none 0 0, .int .i64 0]), 3, 40) := by kernel_rfl
/-- What stands behind k readings. -/
def Lg (w : World) (last : Int) (oo : Option Addr) (on oc : Nat) (g : Nat → Vw) (k : Nat) (wr : World) : Prop :=
  ∃ v, B3 wr (w.heap.size + 1 + 1) (.int .i64 last) (.slice oo on oc) v ∧ wr.ownsRow (w.heap.size + 1 + 1 + 1) 85 3 v k (cellsF rC g k) ∧ B3 wr (w.heap.size + 1) (.int .i64 0) (.slice none 0 0) (.slice none 0 0) ∧ Below w.heap.size w wr
/-- A ledger is answered, and whether it is good. -/
def LgEnd (last : Int) (oo : Option Addr) (on oc n : Nat) (g : Nat → Vw) (q : Bool) (w : World) (e : Ending) (w' : World) : Prop :=
  ∃ (lo : Option Addr) (lc : Nat), e = .returned (.tuple #[.agg #[.int .i64 last, .slice oo on oc, .slice lo n lc], .bool q]) ∧ w'.ownsRow w.heap.size 85 3 (.slice lo n lc) n (cellsF rC g n) ∧ Below w.heap.size w w'

set_option maxHeartbeats 8000000 in
set_option maxRecDepth 100000 in
theorem ledgerI (last : Int) (oo : Option Addr) (oc : Nat) (op : List Int) (ro : Option Addr) (rc n : Nat) (g : Nat → Vw) (hp : op.length ≤ 1048576) (hn : n ≤ 1048576) (hm : ∀ k, k < n → (g k).xs.length ≤ 1048576) (w : World) (h : MH w w.heap.size oo op ro n g) :
    Calls Try.prog 42 #[.agg #[.int .i64 last, .slice oo op.length oc, .slice ro n rc]] w (LgEnd last oo op.length oc n g (goodMk last op (conL n g)) w) := by
  have hb0 := (((Below.refl w.heap.size w).alloc (Nat.le_refl _) (.cells #[.int .i64 last, .slice oo op.length oc, .slice ro n rc] 30)).alloc (by simp) (.cells #[.int .i64 0, .slice none 0 0, .slice none 0 0] 61)).alloc (by simp; omega) (.cells #[.int .i64 last, .slice oo op.length oc, .slice none 0 0] 61)
  have hx1 := ((B3.new (w.alloc (.cells #[.int .i64 last, .slice oo op.length oc, .slice ro n rc] 30)) (.int .i64 0) (.slice none 0 0) (.slice none 0 0) 61).alloc (.cells #[.int .i64 last, .slice oo op.length oc, .slice none 0 0] 61))
  have hx2 := (B3.new ((w.alloc (.cells #[.int .i64 last, .slice oo op.length oc, .slice ro n rc] 30)).alloc (.cells #[.int .i64 0, .slice none 0 0, .slice none 0 0] 61)) (.int .i64 last) (.slice oo op.length oc) (.slice none 0 0) 61)
  rw [World.size_alloc] at hx1
  rw [World.size_alloc, World.size_alloc] at hx2
  have HL0 : Hid (Lg w last oo op.length oc g 0 (((w.alloc (.cells #[.int .i64 last, .slice oo op.length oc, .slice ro n rc] 30)).alloc (.cells #[.int .i64 0, .slice none 0 0, .slice none 0 0] 61)).alloc (.cells #[.int .i64 last, .slice oo op.length oc, .slice none 0 0] 61))) :=
    Lib.hid ⟨_, hx2, World.ownsRow_nil _ _ _ _, hx1, hb0⟩
  have H := Lib.hid h
  have HM := Lib.hid hm
  obtain ⟨i0, hi, hz0, hz1, hz2⟩ := info_parts Try.infoR
  clear h hm hb0 hx1 hx2
  go_enter Try.func42, Try.ntmps42
  go_wp2
  go_loopw [16] (fun i wr => ∃ k : Nat, k ≤ n ∧ i = .int .i64 k ∧ Hid (Lg w last oo op.length oc g k wr)) (fun i _ => n - (intOf i).toNat)
  case atStart => exact ⟨0, Nat.zero_le _, rfl, HL0⟩
  case round =>
    obtain ⟨k, hk, rfl, hL⟩ := hrel
    by_cases hlt : k < n
    · obtain ⟨v, hX2, hO, hX1, hB⟩ := hL.out
      obtain ⟨o, c, rfl⟩ := own_slice hO
      obtain ⟨b, off, hao, hbl, c0, c1, c2⟩ := (H.out.2.below hB.size hB).oneV hlt
      subst hao
      have HR := Lib.hid (fun W => readingI (g k) W)
      have hcl : cellsF rC g (k + 1) = cellsF rC g k ++ rC (g k) := rfl
      have HCl := Lib.hid hcl
      have HO := Lib.hid (hO.alloc (.cells (vC (g k)).toArray 43))
      have HX1 := Lib.hid (hX1.alloc (.cells (vC (g k)).toArray 43))
      have HX2 := Lib.hid (hX2.alloc (.cells (vC (g k)).toArray 43))
      have HY := Lib.hid (B3.new wr (.int .i64 (g k).id) (.int .i64 (g k).top) (.slice (g k).ao (g k).xs.length (g k).cap) 43)
      have HB := Lib.hid (hB.alloc hB.size (.cells (vC (g k)).toArray 43))
      have hsz : w.heap.size + 1 + 1 < wr.heap.size := hX2.lt
      have HSz := Lib.hid hsz
      clear hcl hO hX1 hX2 hB hL HL0 hsz
      generalize g k = v at c0 c1 c2 HR HCl HO HX1 HX2 HY HB
      obtain ⟨vi, vt, va, vc, vx⟩ := v
      simp only [vC, rC] at c0 c1 c2 HR HCl HO HX1 HX2 HY HB
      go_wp2_with fail
      generalize wr.alloc (.cells #[.int .i64 vi, .int .i64 vt, .slice va vx.length vc] 43) = W2 at HO HX1 HX2 HY HB ⊢
      obtain ⟨y0, y1, y2⟩ := HX2.out.cells
      obtain ⟨z0, z1, z2⟩ := HY.out.cells
      have hb0 := (Below.refl W2.heap.size W2).drew
      have hs2 : w.heap.size + 1 + 1 < W2.heap.size := HX2.out.lt
      have hkn : k ≤ 1048576 := by omega
      go_region_law (first
        | (refine step_append_any _ rfl _ _ rfl Try.underlying59 hi hz0 hz1 hz2 rfl (by decide) (w.heap.size + 1 + 1 + 1) _ _ _ rfl ((own_below HO.out hba).alloc _) (some ⟨wa.heap.size, 0, none⟩) 1 1 [.int .i64 vt, .slice va vx.length vc, .int .i64 vi] rfl (src_three _ _ _ _ _) (rC_ones ⟨vi, vt, va, vc, vx⟩) (by unfold maxLen; omega) (by omega) (by simp; omega) ?_; intro v' w3 hown' hgrow hv'; obtain ⟨o', c', rfl⟩ := own_slice hown'; have HX3 := Lib.hid (((HX2.out.below hba).alloc (.cells #[.int .i64 vt, .slice va vx.length vc, .int .i64 vi] 85)).apart hgrow (fun e => by have := (HO.out.lt _ e).1; omega)); obtain ⟨q0, q1, q2⟩ := HX3.out.cells; have qf2 := HX3.out.free 2)
        | (go_simp; go_at_call 68; refine (HR.out _).mono ?_; rintro e wa ⟨rfl, hba'⟩; have hba := hb0.trans hba'; clear hba'; have hsa := hba.size; obtain ⟨u0, u1, u2⟩ := (HX2.out.below hba).cells; obtain ⟨u3, u4, u5⟩ := ((HX2.out.below hba).alloc (.cells #[.int .i64 vt, .slice va vx.length vc, .int .i64 vi] 85)).cells))
      all_goals
        have hL : Lg w last oo op.length oc g (k + 1) (w3.setCell ⟨w.heap.size + 1 + 1, 2, none⟩ (.slice o' (k + 1) c')) := by
          have hO2 : ∀ q, (Value.slice o k c).ownBlock = some q → w.heap.size + 1 + 1 + 1 ≤ q := fun q hq => (HO.out.lt q hq).1
          refine ⟨_, HX3.out.set2 _, ?_, ?_, ?_⟩
          · rw [HCl.out]
            exact own_set hown' (by omega)
          · exact (((HX1.out.below hba).alloc _).apart hgrow (fun e => by have := hO2 _ e; omega)).other (by show w.heap.size + 1 ≠ w.heap.size + 1 + 1; omega) _
          · exact (((HB.out.trans (hba.mono HB.out.size)).alloc (Nat.le_trans HB.out.size hba.size) _).grown hgrow (by simp; omega) (fun q hq => by have := hO2 q hq; omega)).setCell (by show w.heap.size ≤ w.heap.size + 1 + 1; omega) _
        have HL := Lib.hid hL
        clear hL hown' hgrow hv' q0 q1 q2 qf2 y0 y1 y2 z0 z1 z2 hba hb0 u0 u1 u2 u3 u4 u5
        go_wp2
        go_roundw
        case rel => exact ⟨k + 1, by omega, by go_num, HL⟩
        case measure => simp [intOf]; omega
    · obtain rfl : k = n := by omega
      obtain ⟨v, hX2, hO, hX1, hB⟩ := hL.out
      obtain ⟨o, c, rfl⟩ := own_slice hO
      have hMH := H.out.below hB.size hB
      have hVR := vf_own rC_len hO hMH.2.2
      have HO := Lib.hid hO
      have HX1 := Lib.hid hX1
      have HX2 := Lib.hid hX2
      have HB := Lib.hid hB
      have HN := Lib.hid (fun (U : World) (hU : Below wr.heap.size wr U) => numsI last oo oc op hp U (hMH.1.below hU.size hU))
      have HRd := Lib.hid (fun (hl : last ≤ 100000) (U : World) (hU : Below wr.heap.size wr U) => readersI last oo o op.length oc c k g hl hn HM.out U (hVR.below hU.size hU))
      have hb0 := (Below.refl wr.heap.size wr).drew
      have hs2 : w.heap.size + 1 + 1 < wr.heap.size := hX2.lt
      have HEnd := Lib.hid (fun (U : World) (hU : Below wr.heap.size wr U) => show ((((U.setCell ⟨w.heap.size + 1, 0, none⟩ (.int .i64 last)).setCell ⟨w.heap.size + 1, 1, none⟩ (.slice oo op.length oc)).setCell ⟨w.heap.size + 1, 2, none⟩ (.slice o k c)).ownsRow w.heap.size 85 3 (.slice o k c) k (cellsF rC g k)) ∧ Below w.heap.size w (((U.setCell ⟨w.heap.size + 1, 0, none⟩ (.int .i64 last)).setCell ⟨w.heap.size + 1, 1, none⟩ (.slice oo op.length oc)).setCell ⟨w.heap.size + 1, 2, none⟩ (.slice o k c)) from
        ⟨own_lower (own_set (own_set (own_set (own_below hO hU) (by omega)) (by omega)) (by omega)) (by omega), (((hB.trans (hU.mono hB.size)).setCell (by show w.heap.size ≤ w.heap.size + 1; omega) _).setCell (by show w.heap.size ≤ w.heap.size + 1; omega) _).setCell (by show w.heap.size ≤ w.heap.size + 1; omega) _⟩)
      obtain ⟨y0, y1, y2⟩ := hX2.cells
      clear hO hX1 hX2 hB hL HL0 hMH hVR
      cases hgn : goodN last op with
      | false =>
        have HG := Lib.hid (goodMk_nums (l := conL k g) hgn)
        rw [hgn] at HN
        clear hgn HRd
        go_wp2_with fail
        go_region_with ((go_at_call 74; refine (HN.out _ hb0).mono ?_; rintro e wa ⟨rfl, hba'⟩; have hba := hb0.trans hba'; clear hba'; obtain ⟨u0, u1, u2⟩ := (HX2.out.below hba).cells; obtain ⟨t0, t1, t2⟩ := (HX1.out.below hba).cells; have f0 := (HX1.out.below hba).free 0; have f1 := (HX1.out.below hba).free 1; have f2 := (HX1.out.below hba).free 2))
        all_goals
          have HE := Lib.hid (HEnd.out wa hba)
          clear hba
          go_wp2
          exact bodyPost_ret (v := .tuple #[.agg #[.int .i64 last, .slice oo op.length oc, .slice o k c], .bool false]) (by simp [results, Try.results42, go_sem, t0, t1, t2]) rfl ⟨o, c, by rw [HG.out], HE.out.1, HE.out.2⟩
      | true =>
        have HG := Lib.hid (goodMk_both (l := conL k g) hgn)
        have hl := (goodN_is hgn).1.2
        rw [hgn] at HN
        have HRd := Lib.hid (HRd.out hl)
        clear hgn hl
        generalize goodRd last (conL k g) = q at HRd HG
        go_wp2_with fail
        go_region_with (first | (go_at_call 74; refine (HN.out _ hb0).mono ?_; rintro e wa ⟨rfl, hba'⟩; have hba := hb0.trans hba'; clear hba'; obtain ⟨u0, u1, u2⟩ := (HX2.out.below hba).cells) | (go_at_call 75; refine (HRd.out _ hba).mono ?_; rintro e wb ⟨rfl, hbb'⟩; have hbb := hba.trans (hbb'.mono hba.size); clear hbb'; obtain ⟨v0, v1, v2⟩ := (HX2.out.below hbb).cells; obtain ⟨t0, t1, t2⟩ := (HX1.out.below hbb).cells; have f0 := (HX1.out.below hbb).free 0; have f1 := (HX1.out.below hbb).free 1; have f2 := (HX1.out.below hbb).free 2))
        all_goals
          have HE := Lib.hid (HEnd.out wb hbb)
          clear hba hbb
          go_wp2
          exact bodyPost_ret (v := .tuple #[.agg #[.int .i64 last, .slice oo op.length oc, .slice o k c], .bool q]) (by simp [results, Try.results42, go_sem, t0, t1, t2]) rfl ⟨o, c, by rw [HG.out], HE.out.1, HE.out.2⟩
end Go.Proofs.Ytabkjjbhnapgpaa
