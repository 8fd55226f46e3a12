/- Contracts of the exact laws on marks: whether two are the same, the marks that are laid and found; over this seat's translation. -/
import Derived.Test.YtabkjjbhnapgpaaVx
namespace Go.Proofs.Ytabkjjbhnapgpaa
open Go.RowKit Go.Deep Go.ChangeShapes Go.WideShapes Go.ChangeAt

set_option maxHeartbeats 1000000 in
set_option maxRecDepth 100000 in
theorem eqV (i t : Int) (ao bo : Option Addr) (c d : Nat) (xs : List Int) (hn : xs.length ≤ 1048576) (w : World) (ha : IRow w w.heap.size ao xs) (hb : IRow w w.heap.size bo xs) :
    Calls Try.prog 26 #[.agg #[.int .i64 i, .int .i64 t, .slice ao xs.length c], .agg #[.int .i64 i, .int .i64 t, .slice bo xs.length d]] w fun e w' => e = .returned (.bool true) ∧ Below w.heap.size w w' := by
  have hb0 := ((Below.refl w.heap.size w).alloc (Nat.le_refl _) (.cells #[.int .i64 i, .int .i64 t, .slice ao xs.length c] 43)).alloc (by simp) (.cells #[.int .i64 i, .int .i64 t, .slice bo xs.length d] 43)
  have HC := Lib.hid (eqInts ao bo c d xs hn _ (ha.below hb0.size hb0) (hb.below hb0.size hb0))
  have HB0 := Lib.hid hb0
  clear ha hb hb0
  have h1 : (i != i) = false := by simp
  have h2 : (t != t) = false := by simp
  go_enter Try.func26, Try.ntmps26
  go_wp2_with fail
  refine HC.out.mono ?_
  rintro e w1 ⟨rfl, hb1⟩
  have HB1 := Lib.hid (HB0.out.trans (hb1.mono HB0.out.size))
  clear hb1
  go_wp2
  go_ret
  exact ⟨rfl, HB1.out⟩

set_option maxHeartbeats 4000000 in
set_option maxRecDepth 100000 in
theorem eqVS (ao bo : Option Addr) (c d n : Nat) (g g' : Nat → Vw) (hn : n ≤ 1048576) (hm : ∀ k, k < n → (g k).xs.length ≤ 1048576) (hcon : ∀ k, k < n → (g' k).con = (g k).con) (w : World) (ha : VF vC w w.heap.size ao n g) (hb : VF vC w w.heap.size bo n g') :
    Calls Try.prog 44 #[.slice ao n c, .slice bo n d] w fun e w' => e = .returned (.bool true) ∧ Below w.heap.size w w' := by
  have HA := Lib.hid ha
  have HB := Lib.hid hb
  have HM := Lib.hid hm
  have HCn := Lib.hid hcon
  clear ha hb hm hcon
  go_enter Try.func44, Try.ntmps44
  go_wp2
  go_loopw [5] (fun i wr => ∃ k : Nat, k ≤ n ∧ i = .int .i64 k ∧ Hid (Below w.heap.size w wr)) (fun i _ => n - (intOf i).toNat)
  case atStart => exact ⟨0, Nat.zero_le _, rfl, Lib.hid (Below.refl _ _)⟩
  case round =>
    obtain ⟨k, hk, rfl, hB⟩ := hrel
    by_cases hlt : k < n
    · have hA1 := HA.out.after hB.out
      have hB1 := HB.out.after hB.out
      obtain ⟨b, off, hao, hbl, c0, c1, c2⟩ := hA1.oneV hlt
      obtain ⟨b', off', hbo, hbl', d0, d1, d2⟩ := hB1.oneV hlt
      subst hao hbo
      have hi1 := hA1.2 k hlt
      have hi2 := hB1.2 k hlt
      have hm1 := HM.out k hlt
      have hc1 := HCn.out k hlt
      clear hA1 hB1
      generalize g k = v at c0 c1 c2 hi1 hm1 hc1
      generalize g' k = u at d0 d1 d2 hi2 hc1
      obtain ⟨vi, vt, va, vc, vx⟩ := v
      obtain ⟨ui, ut, ua, uc, ux⟩ := u
      simp only [Vw.con, Prod.mk.injEq] at hc1
      obtain ⟨rfl, rfl, rfl⟩ := hc1
      have HC := Lib.hid (eqV ui ut va ua vc uc ux hm1 wr.drew (hi1.below (Nat.le_refl _) ((Below.refl _ _).drew)) (hi2.below (Nat.le_refl _) ((Below.refl _ _).drew)))
      clear hi1 hi2 hm1
      go_wp2_with fail
      go_region_held3 (fun W => W.cell? ⟨b, off + k * 3, none⟩ = some (.int .i64 ui) ∧ W.cell? ⟨b, off + k * 3 + 1, none⟩ = some (.int .i64 ut) ∧ W.cell? ⟨b, off + k * 3 + 2, none⟩ = some (.slice va ux.length vc) ∧ W.cell? ⟨b', off' + k * 3, none⟩ = some (.int .i64 ui) ∧ W.cell? ⟨b', off' + k * 3 + 1, none⟩ = some (.int .i64 ut) ∧ W.cell? ⟨b', off' + k * 3 + 2, none⟩ = some (.slice ua ux.length uc)) (exact ⟨by assumption, by assumption, by assumption, by assumption, by assumption, by assumption⟩) (first | (go_at_call 26; refine HC.out.mono ?_; rintro e w1 ⟨rfl, hb1⟩; have e0 := (hb1.cell (p := ⟨b, off + k * 3, none⟩) hbl).trans c0; have e1 := (hb1.cell (p := ⟨b, off + k * 3 + 1, none⟩) hbl).trans c1; have e2 := (hb1.cell (p := ⟨b, off + k * 3 + 2, none⟩) hbl).trans c2; have e3 := (hb1.cell (p := ⟨b', off' + k * 3, none⟩) hbl').trans d0; have e4 := (hb1.cell (p := ⟨b', off' + k * 3 + 1, none⟩) hbl').trans d1; have e5 := (hb1.cell (p := ⟨b', off' + k * 3 + 2, none⟩) hbl').trans d2))
      have HB1 := Lib.hid (hB.out.drew.trans (hb1.mono hB.out.size))
      clear hb1 c0 c1 c2 d0 d1 d2 e0 e1 e2 e3 e4 e5
      go_wp2
      go_roundw
      case rel => exact ⟨k + 1, by omega, by go_num, HB1⟩
      case measure => simp [intOf]; omega
    · go_wp2
      go_ret
      exact ⟨rfl, hB.out⟩

set_option maxHeartbeats 1000000 in
set_option maxRecDepth 100000 in
theorem eqMk (last : Int) (oo qo : Option Addr) (oc qc : Nat) (op : List Int) (ro so : Option Addr) (rc sc n : Nat) (g g' : Nat → Vw) (hp : op.length ≤ 1048576) (hn : n ≤ 1048576) (hm : ∀ k, k < n → (g k).xs.length ≤ 1048576) (hcon : ∀ k, k < n → (g' k).con = (g k).con) (w : World) (ha : MH w w.heap.size oo op ro n g) (hb : MH w w.heap.size qo op so n g') :
    Calls Try.prog 15 #[.agg #[.int .i64 last, .slice oo op.length oc, .slice ro n rc], .agg #[.int .i64 last, .slice qo op.length qc, .slice so n sc]] w fun e w' => e = .returned (.bool true) ∧ Below w.heap.size w w' := by
  have hb0 := ((Below.refl w.heap.size w).alloc (Nat.le_refl _) (.cells #[.int .i64 last, .slice oo op.length oc, .slice ro n rc] 30)).alloc (by simp) (.cells #[.int .i64 last, .slice qo op.length qc, .slice so n sc] 30)
  have HC := Lib.hid (eqInts oo qo oc qc op hp _ (ha.1.below hb0.size hb0) (hb.1.below hb0.size hb0))
  have HD := Lib.hid (fun W h1 h2 => eqVS ro so rc sc n g g' hn hm hcon W h1 h2)
  have HA := Lib.hid (ha.2.below hb0.size hb0)
  have HB := Lib.hid (hb.2.below hb0.size hb0)
  have HX := Lib.hid ((B3.new w (.int .i64 last) (.slice oo op.length oc) (.slice ro n rc) 30).alloc (.cells #[.int .i64 last, .slice qo op.length qc, .slice so n sc] 30))
  have HY := Lib.hid (B3.new (w.alloc (.cells #[.int .i64 last, .slice oo op.length oc, .slice ro n rc] 30)) (.int .i64 last) (.slice qo op.length qc) (.slice so n sc) 30)
  rw [World.size_alloc] at HY
  have HB0 := Lib.hid hb0
  clear ha hb hb0 hcon hm
  have h1 : (last != last) = false := by simp
  go_enter Try.func15, Try.ntmps15
  go_wp2_with fail
  generalize (w.alloc (.cells #[.int .i64 last, .slice oo op.length oc, .slice ro n rc] 30)).alloc (.cells #[.int .i64 last, .slice qo op.length qc, .slice so n sc] 30) = W at HC HA HB HX HY HB0 ⊢
  refine HC.out.mono ?_
  rintro e w1 ⟨rfl, hb1⟩
  have HB1 := Lib.hid (HB0.out.trans (hb1.mono HB0.out.size))
  have HA1 := Lib.hid (HA.out.after hb1)
  have HB2 := Lib.hid (HB.out.after hb1)
  obtain ⟨x0, x1, x2⟩ := (HX.out.below hb1).cells
  obtain ⟨y0, y1, y2⟩ := (HY.out.below hb1).cells
  clear hb1
  go_wp2_with fail
  refine (HD.out _ HA1.out HB2.out).mono ?_
  rintro e w2 ⟨rfl, hb2⟩
  have HB3 := Lib.hid (HB1.out.trans (hb2.mono HB1.out.size))
  clear hb2
  go_wp2
  go_ret
  exact ⟨rfl, HB3.out⟩

set_option maxHeartbeats 2000000 in
set_option maxRecDepth 100000 in
theorem markX (ao : Option Addr) (c q : Nat) (xs : List Int) (hn : xs.length ≤ 1048576) (hq : q ≤ 8388608) (w : World) (h : IRow w w.heap.size ao xs) (hfz : 0 < xs.length → ∀ i, w.frozen? ⟨blk ao, i, none⟩ = false) :
    Calls Try.prog 48 #[.slice ao xs.length c, .int .i64 q] w fun e w' => e = .returned (.int .i64 ((q + xs.length : Nat) : Int)) ∧ IRow w' w'.heap.size ao (marksI q xs.length) ∧ Only (fun i => 0 < xs.length ∧ i = blk ao) w w' := by
  by_cases hp : 0 < xs.length
  case neg =>
    obtain rfl : xs = [] := List.eq_nil_of_length_eq_zero (by omega)
    clear h hfz
    refine (markI0 ao c q w).mono ?_
    rintro e w' ⟨rfl, rfl⟩
    exact ⟨rfl, ⟨fun x hx => by simp [marksI] at hx, fun hh => by simp [marksI] at hh⟩, Only.refl _ _⟩
  obtain ⟨b, off, rfl, hbl, hc⟩ := h.2 hp
  have HF := Lib.hid (hfz hp)
  have HC := Lib.hid hc
  have HP := Lib.hid hp
  obtain ⟨n, hxn⟩ : ∃ n, n = xs.length := ⟨_, rfl⟩
  rw [← hxn] at hn ⊢
  have HN := Lib.hid hxn
  clear h hfz hc hp hxn
  go_enter Try.func48, Try.ntmps48
  go_wp2
  go_loopw [1, 5] (fun r i wr => ∃ j : Nat, j ≤ n ∧ i = .int .i64 j ∧ r = .int .i64 ((q + j : Nat) : Int) ∧ Hid (∀ i, i < n → wr.cell? ⟨b, off + i, none⟩ = some (.int .i64 (if i < j then ((q + i : Nat) : Int) else at0 xs i))) ∧ Hid (Only (fun i => i = b) w wr)) (fun _ i _ => n - (intOf i).toNat)
  case atStart => exact ⟨0, Nat.zero_le _, rfl, rfl, Lib.hid (fun i hi => by rw [if_neg (by omega), HC.out i (by have := HN.out; omega), at0_get (by have := HN.out; omega)]), Lib.hid (Only.refl _ _)⟩
  case round =>
    obtain ⟨j, hj, rfl, rfl, hI, hO⟩ := hrel
    by_cases hlt : j < n
    · have hto := hI.out j hlt
      have hfz := (hO.out.frozen ⟨b, off + j, none⟩ hbl).trans (HF.out (off + j))
      have HI := Lib.hid (fun i (hi : i < n) => show (wr.setCell ⟨b, off + j, none⟩ (.int .i64 ((q + j : Nat) : Int))).cell? ⟨b, off + i, none⟩ = some (.int .i64 (if i < j + 1 then ((q + i : Nat) : Int) else at0 xs i)) from by
        by_cases e : i = j
        · subst e
          rw [if_pos (by omega)]
          exact set_same hto
        · rw [set_other (off_ne (by omega)), hI.out i hi]
          by_cases h1 : i < j
          · rw [if_pos h1, if_pos (by omega)]
          · rw [if_neg h1, if_neg (by omega)])
      have HO := Lib.hid (hO.out.trans (Only.set (S := fun i => i = b) wr (p := ⟨b, off + j, none⟩) (.int .i64 ((q + j : Nat) : Int)) rfl))
      have hq2 : q + j ≤ 16777216 := by omega
      obtain ⟨r, hr⟩ : ∃ r, r = q + j := ⟨_, rfl⟩
      rw [← hr] at HI HO hq2 ⊢
      have HQ := Lib.hid hr
      generalize (if j < j then ((q + j : Nat) : Int) else at0 xs j) = y at hto
      clear hr hI hO
      go_wp2
      go_roundw
      case rel => exact ⟨j + 1, by omega, by go_num, by have := HQ.out; go_num, HI, HO⟩
      case measure => simp [intOf]; omega
    · obtain rfl : j = n := by omega
      have HE : Hid (IRow wr wr.heap.size (some ⟨b, off, none⟩) (marksI q j)) := Lib.hid ⟨fun x hx => by
        simp [marksI] at hx
        obtain ⟨i, _, rfl⟩ := hx
        unfold In64; omega, fun _ => ⟨b, off, rfl, Nat.lt_of_lt_of_le hbl hO.out.size, fun i hi => by
          rw [marksI_len] at hi
          rw [hI.out i hi, if_pos hi, ← at0_get (by rw [marksI_len]; exact hi), marksI_at hi]⟩⟩
      have HO := Lib.hid (hO.out.mono (T := fun i => 0 < j ∧ i = blk (some ⟨b, off, none⟩)) fun i _ e => ⟨by have := HP.out; have := HN.out; omega, e⟩)
      clear hI hO
      go_wp2
      go_ret
      exact ⟨rfl, HE.out, HO.out⟩
end Go.Proofs.Ytabkjjbhnapgpaa
