/- Contracts of the marks that the exact laws lay on marks of who sees what, and look for; over this seat's translation. -/
import Derived.Test.YtabkjjbhnapgpaaVy
namespace Go.Proofs.Ytabkjjbhnapgpaa
open Go.RowKit Go.Deep Go.ChangeShapes Go.WideShapes Go.ChangeAt

theorem VF.part0 {w : World} {B n q : Nat} {ao : Option Addr} {g : Nat → Vw} (h : VF vC w B ao n g) : VF vC w B ao n (partV q g 0) := h.congr fun k _ => (partV_zero q g k).symm

set_option maxHeartbeats 4000000 in
set_option maxRecDepth 100000 in
theorem markVS (ao : Option Addr) (c n q : Nat) (g : Nat → Vw) (hn : n ≤ 1048576) (hm : ∀ k, k < n → (g k).xs.length ≤ 1048576) (hq : q + cntV g n ≤ 8388608) (w : World) (h : VF vC w w.heap.size ao n g) (hd : VD w 0 ao n g) :
    Calls Try.prog 49 #[.slice ao n c, .int .i64 q] w fun e w' => e = .returned (.int .i64 ((q + cntV g n : Nat) : Int)) ∧ VF vC w' w'.heap.size ao n (partV q g n) ∧ Only (VS ao n g) w w' := by
  have H := Lib.hid h
  have HD := Lib.hid hd
  have HM := Lib.hid hm
  have HQ := Lib.hid hq
  clear h hd hm hq
  go_enter Try.func49, Try.ntmps49
  go_wp2
  go_loopw [1, 5] (fun r i wr => ∃ j : Nat, j ≤ n ∧ i = .int .i64 j ∧ r = .int .i64 ((q + cntV g j : Nat) : Int) ∧ Hid (VF vC wr wr.heap.size ao n (partV q g j)) ∧ Hid (Only (VS ao n g) w wr)) (fun _ i _ => n - (intOf i).toNat)
  case atStart => exact ⟨0, Nat.zero_le _, rfl, rfl, Lib.hid H.out.part0, Lib.hid (Only.refl _ _)⟩
  case round =>
    obtain ⟨j, hj, rfl, rfl, hI, hO⟩ := hrel
    by_cases hlt : j < n
    · obtain ⟨b, off, hao, hbl, c0, c1, c2⟩ := hI.out.oneV hlt
      subst hao
      have hpj : partV q g j j = g j := by simp [partV]
      rw [hpj] at c0 c1 c2
      have hdw : VD wr 0 (some ⟨b, off, none⟩) n g := HD.out.only H.out hO.out
      have f0 := (hdw.1 (by omega)).2 (off + j * 3)
      have f1 := (hdw.1 (by omega)).2 (off + j * 3 + 1)
      simp only [blk] at f0 f1
      have hcn : q + (cntV g j + (2 + (g j).xs.length)) ≤ 8388608 := by
        have h1 := cntV_mono g (k := j + 1) (n := n) hlt
        have h2 := HQ.out
        have e : cntV g (j + 1) = cntV g j + (2 + (g j).xs.length) := rfl
        omega
      have hhi : IRow wr wr.heap.size (g j).ao (g j).xs := by have := hI.out.2 j hlt; rwa [hpj] at this
      have hnb : 0 < (g j).xs.length → blk (g j).ao ≠ b := fun hp => (hdw.2.1 j hlt hp).2.1
      have HC := Lib.hid (fun (W : World) (h1 : IRow W W.heap.size (g j).ao (g j).xs) h2 => markX (g j).ao (g j).cap (q + cntV g j + 2) (g j).xs (HM.out j hlt) (by omega) W h1 h2)
      have HW := Lib.hid (fun (x y : Value) => show IRow ((wr.setCell ⟨b, off + j * 3, none⟩ x).setCell ⟨b, off + j * 3 + 1, none⟩ y) ((wr.setCell ⟨b, off + j * 3, none⟩ x).setCell ⟨b, off + j * 3 + 1, none⟩ y).heap.size (g j).ao (g j).xs from
        hhi.only ((Only.set (S := fun i => i = b) wr x rfl).trans (Only.set _ y rfl)) hnb)
      have HZ := Lib.hid (fun (x y : Value) (hp : 0 < (g j).xs.length) (i : Nat) => show ((wr.setCell ⟨b, off + j * 3, none⟩ x).setCell ⟨b, off + j * 3 + 1, none⟩ y).frozen? ⟨blk (g j).ao, i, none⟩ = false from by
        rw [World.frozen?_setCell, World.frozen?_setCell]
        exact (hdw.2.1 j hlt hp).2.2 i)
      have HSt := Lib.hid (fun (w3 : World) ho hi => partV_step (w := wr) (w3 := w3) hdw hI.out hlt ho hi)
      have HEq : Hid (cntV g (j + 1) = cntV g j + (2 + (g j).xs.length)) := Lib.hid rfl
      obtain ⟨r, hr⟩ : ∃ r, r = q + cntV g j := ⟨_, rfl⟩
      rw [← hr] at HC HSt ⊢
      have hr8 : r + (2 + (g j).xs.length) ≤ 8388608 := by omega
      have HR := Lib.hid hr
      clear hr hcn hI hpj hdw hhi hnb
      generalize g j = v at *
      have hx : v.xs.length ≤ 8388608 := by omega
      rw [show ((r + 1 : Nat) : Int) = (r : Int) + 1 by omega] at HSt
      rw [show ((r + 2 : Nat) : Int) = (r : Int) + 1 + 1 by omega] at HC
      go_wp2_with fail
      refine (HC.out _ (HW.out _ _) (HZ.out _ _)).mono ?_
      rintro e w3 ⟨rfl, hi3, ho3⟩
      obtain ⟨h1, h2⟩ := HSt.out w3 ho3 hi3
      have HV := Lib.hid h1
      have HO := Lib.hid (hO.out.trans h2)
      have HT : Hid (r + 2 + v.xs.length = q + cntV g (j + 1)) := Lib.hid (by have := HR.out; have := HEq.out; omega)
      clear h1 h2 hi3 ho3 HC HW HZ HSt hO HEq
      go_wp2
      go_roundw
      case rel => exact ⟨j + 1, by omega, by go_num, by have := HT.out; go_num, HV, HO⟩
      case measure => simp [intOf]; omega
    · obtain rfl : j = n := by omega
      go_wp2
      go_ret
      exact ⟨rfl, hI.out, hO.out⟩

set_option maxHeartbeats 4000000 in
set_option maxRecDepth 100000 in
theorem heldVS (ao : Option Addr) (c n q : Nat) (g : Nat → Vw) (hn : n ≤ 1048576) (hm : ∀ k, k < n → (g k).xs.length ≤ 1048576) (hq : q + cntV g n ≤ 2097152) (w : World) (h : VF vC w w.heap.size ao n (partV q g n)) :
    Calls Try.prog 51 #[.slice ao n c, .int .i64 q] w fun e w' => e = .returned (.int .i64 ((q + cntV g n : Nat) : Int)) ∧ w' = w := by
  have H := Lib.hid h
  have HM := Lib.hid hm
  have HQ := Lib.hid hq
  clear h hm hq
  go_enter Try.func51, Try.ntmps51
  go_wp2
  go_loopw [1, 5] (fun r i wr => ∃ j : Nat, j ≤ n ∧ i = .int .i64 j ∧ r = .int .i64 ((q + cntV g j : Nat) : Int) ∧ wr = w) (fun _ i _ => n - (intOf i).toNat)
  case atStart => exact ⟨0, Nat.zero_le _, rfl, rfl, rfl⟩
  case round =>
    obtain ⟨j, hj, rfl, rfl, rfl⟩ := hrel
    by_cases hlt : j < n
    · obtain ⟨b, off, hao, hbl, c0, c1, c2⟩ := H.out.oneV hlt
      subst hao
      have hpj : partV q g n j = mkV (q + cntV g j) (g j) := by simp [partV, hlt]
      rw [hpj] at c0 c1 c2
      simp only [mkV, marksI_len] at c0 c1 c2
      have hcn : q + (cntV g j + (2 + (g j).xs.length)) ≤ 2097152 := by
        have h1 := cntV_mono g (k := j + 1) (n := n) hlt
        have h2 := HQ.out
        have e : cntV g (j + 1) = cntV g j + (2 + (g j).xs.length) := rfl
        omega
      have hhi : IRow wr wr.heap.size (g j).ao (marksI (q + cntV g j + 2) (g j).xs.length) := by have := H.out.2 j hlt; rwa [hpj] at this
      have HC := Lib.hid (heldI (g j).ao (g j).xs.length (g j).cap (q + cntV g j + 2) (HM.out j hlt) (by omega) wr (fun hp => by
        obtain ⟨b', off', e, _, hc⟩ := hhi.2 (by rw [marksI_len]; exact hp)
        exact ⟨b', off', e, fun i hi => by rw [hc i (by rw [marksI_len]; exact hi), ← at0_get (by rw [marksI_len]; exact hi), marksI_at hi]⟩))
      have HEq : Hid (cntV g (j + 1) = cntV g j + (2 + (g j).xs.length)) := Lib.hid rfl
      obtain ⟨r, hr⟩ : ∃ r, r = q + cntV g j := ⟨_, rfl⟩
      rw [← hr] at HC c0 c1
      rw [← hr]
      have hr8 : r + (2 + (g j).xs.length) ≤ 2097152 := by omega
      have HR := Lib.hid hr
      clear hr hcn hpj hhi
      generalize g j = v at *
      have hx : v.xs.length ≤ 2097152 := by omega
      rw [show ((r + 1 : Nat) : Int) = (r : Int) + 1 by omega] at c1
      rw [show ((r + 2 : Nat) : Int) = (r : Int) + 1 + 1 by omega] at HC
      have hnn : ¬ (((r + 2 + v.xs.length : Nat) : Int) < 0) := by omega
      go_wp2_with fail
      refine HC.out.mono ?_
      rintro e w3 ⟨rfl, rfl⟩
      have HT : Hid (r + 2 + v.xs.length = q + cntV g (j + 1)) := Lib.hid (by have := HR.out; have := HEq.out; omega)
      clear HC HEq
      go_wp2
      go_roundw
      case rel => exact ⟨j + 1, by omega, by go_num, by have := HT.out; go_num, trivial⟩
      case measure => simp [intOf]; omega
    · obtain rfl : j = n := by omega
      go_wp2
      go_ret
      exact ⟨rfl, rfl⟩

/-- How many marks there are. -/
def cntM (op : List Int) (n : Nat) (g : Nat → Vw) : Nat := op.length + cntV g n
/-- Marked marks, as they lie in memory. -/
def MM (w : World) (oo : Option Addr) (op : List Int) (ro : Option Addr) (n q : Nat) (g : Nat → Vw) : Prop := IRow w w.heap.size oo (marksI q op.length) ∧ VF vC w w.heap.size ro n (partV (q + op.length) g n)

set_option maxHeartbeats 1000000 in
set_option maxRecDepth 100000 in
theorem markMk (last : Int) (oo : Option Addr) (oc q : Nat) (op : List Int) (ro : Option Addr) (rc n : Nat) (g : Nat → Vw) (hp : op.length ≤ 1048576) (hn : n ≤ 1048576) (hm : ∀ k, k < n → (g k).xs.length ≤ 1048576) (hq : q + cntM op n g ≤ 8388608) (w : World) (h : MH w w.heap.size oo op ro n g) (lo : Nat) (hd : MD w lo oo op ro n g) :
    Calls Try.prog 18 #[.agg #[.int .i64 last, .slice oo op.length oc, .slice ro n rc], .int .i64 q] w fun e w' => e = .returned (.int .i64 ((q + cntM op n g : Nat) : Int)) ∧ MM w' oo op ro n q g ∧ Only (MS oo op ro n g) w w' := by
  have hb0 := (Below.refl w.heap.size w).alloc (Nat.le_refl _) (.cells #[.int .i64 last, .slice oo op.length oc, .slice ro n rc] 30)
  have ho0 := Only.of_below (MS oo op ro n g) hb0
  have hs0 : w.heap.size < (w.alloc (.cells #[.int .i64 last, .slice oo op.length oc, .slice ro n rc] 30)).heap.size := by simp
  have HX := Lib.hid (B3.new w (.int .i64 last) (.slice oo op.length oc) (.slice ro n rc) 30)
  have HC := Lib.hid (markX oo oc q op hp (by unfold cntM at hq; omega) _ (h.1.below hb0.size hb0) (fun hp i => (ho0.frozen _ (h.1.lt hp)).trans ((hd.2 hp).2.1 i)))
  have HD := Lib.hid (fun W h1 h2 => markVS ro rc n (q + op.length) g hn hm (by unfold cntM at hq; omega) W h1 h2)
  have HM := Lib.hid h
  have HMD := Lib.hid hd
  have HO0 := Lib.hid ho0
  have HB0 := Lib.hid hb0
  have HS0 := Lib.hid hs0
  have HE : Hid (q + op.length + cntV g n = q + cntM op n g) := Lib.hid (by unfold cntM; omega)
  rw [show ((q + op.length : Nat) : Int) = (q : Int) + (op.length : Int) by omega] at HD HC
  clear h hd hb0 ho0 hm hq hs0
  go_enter Try.func18, Try.ntmps18
  go_wp2_with fail
  generalize w.alloc (.cells #[.int .i64 last, .slice oo op.length oc, .slice ro n rc] 30) = W at HX HC HO0 HB0 HS0 ⊢
  refine HC.out.mono ?_
  rintro e w1 ⟨rfl, hi1, ho1⟩
  have hO1 : Only (MS oo op ro n g) W w1 := ho1.mono fun i _ hh => .inl hh
  have hMW := HM.out.below HB0.out.size HB0.out
  have hDW := HMD.out.only HM.out HO0.out
  have hV1 : VF vC w1 w1.heap.size ro n g := hMW.2.only ho1 fun i hv hh => (HMD.out.2 hh.1).2.2 (hh.2 ▸ hv)
  have hD1 : VD w1 0 ro n g := by
    have h1 := hDW.1.only hMW.2 ho1
    exact ⟨fun hp => ⟨Nat.zero_le _, (h1.1 hp).2⟩, fun k hk hp => ⟨Nat.zero_le _, (h1.2.1 k hk hp).2⟩, h1.2.2⟩
  have hnw : ¬ (0 < op.length ∧ w.heap.size = blk oo) := fun hh => by
    have h1 := HM.out.1.lt hh.1
    omega
  have h3 := HX.out.only ho1 hnw
  obtain ⟨x0, x1, x2⟩ := h3.cells
  have HV1 := Lib.hid hV1
  have HD1 := Lib.hid hD1
  have HI1 := Lib.hid hi1
  have HO1 := Lib.hid (HO0.out.trans hO1)
  clear hi1 ho1 hO1 hMW hDW hV1 hD1 hnw h3
  go_wp2_with fail
  refine (HD.out _ HV1.out HD1.out).mono ?_
  rintro e w2 ⟨rfl, hv2, ho2⟩
  have HF : Hid (MM w2 oo op ro n q g) := Lib.hid ⟨HI1.out.only ho2 fun hp hv => (HMD.out.2 (by rwa [marksI_len] at hp)).2.2 hv, hv2⟩
  have HO2 := Lib.hid (HO1.out.trans (ho2.mono fun i _ hv => .inr hv))
  rw [HE.out]
  clear hv2 ho2
  go_wp2
  go_ret
  exact ⟨rfl, HF.out, HO2.out⟩

set_option maxHeartbeats 1000000 in
set_option maxRecDepth 100000 in
theorem heldMk (last : Int) (oo : Option Addr) (oc q : Nat) (op : List Int) (ro : Option Addr) (rc n : Nat) (g : Nat → Vw) (hp : op.length ≤ 1048576) (hn : n ≤ 1048576) (hm : ∀ k, k < n → (g k).xs.length ≤ 1048576) (hq : q + cntM op n g ≤ 2097152) (w : World) (h : MM w oo op ro n q g) :
    Calls Try.prog 19 #[.agg #[.int .i64 last, .slice oo op.length oc, .slice ro n rc], .int .i64 q] w fun e w' => e = .returned (.int .i64 ((q + cntM op n g : Nat) : Int)) ∧ Below w.heap.size w w' := by
  have hb0 := (Below.refl w.heap.size w).alloc (Nat.le_refl _) (.cells #[.int .i64 last, .slice oo op.length oc, .slice ro n rc] 30)
  have hx : q + op.length ≤ 2097152 := by unfold cntM at hq; omega
  have hI := h.1.below hb0.size hb0
  have HC := Lib.hid (heldI oo op.length oc q hp (by omega) _ (fun hp => by
        obtain ⟨b', off', e, _, hc⟩ := hI.2 (by rw [marksI_len]; exact hp)
        exact ⟨b', off', e, fun i hi => by rw [hc i (by rw [marksI_len]; exact hi), ← at0_get (by rw [marksI_len]; exact hi), marksI_at hi]⟩))
  have HD := Lib.hid (heldVS ro rc n (q + op.length) g hn hm (by unfold cntM at hq; omega) _ (h.2.below hb0.size hb0))
  have HE : Hid (q + op.length + cntV g n = q + cntM op n g) := Lib.hid (by unfold cntM; omega)
  have HB0 := Lib.hid hb0
  rw [HE.out] at HD
  rw [show ((q + op.length : Nat) : Int) = (q : Int) + (op.length : Int) by omega] at HD HC
  have h1 : ¬ ((q : Int) + (op.length : Int) < 0) := by omega
  obtain ⟨r, hr⟩ : ∃ r, r = q + cntM op n g := ⟨_, rfl⟩
  rw [← hr] at HD ⊢
  have h2 : ¬ ((r : Int) < 0) := by omega
  clear h hb0 hm hq hr hI
  go_enter Try.func19, Try.ntmps19
  go_wp2_with fail
  refine HC.out.mono ?_
  rintro e w1 ⟨rfl, rfl⟩
  go_wp2_with fail
  refine HD.out.mono ?_
  rintro e w2 ⟨rfl, rfl⟩
  go_wp2
  go_ret
  exact ⟨rfl, HB0.out⟩
end Go.Proofs.Ytabkjjbhnapgpaa
