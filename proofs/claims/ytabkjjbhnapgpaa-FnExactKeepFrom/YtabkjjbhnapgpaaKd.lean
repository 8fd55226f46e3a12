/- Contracts of KeepFrom, in the model and in the program; over this seat's translation. -/
import Derived.Test.YtabkjjbhnapgpaaKc
namespace Go.Proofs.Ytabkjjbhnapgpaa
open Go.RowKit Go.Deep Go.ChangeShapes Go.WideShapes Go.ChangeAt

/-- What KeepFrom answers. -/
noncomputable def keepV (last : Int) (op : List Int) (cs : List Vc) : Int := if goodMk last op cs = true then keepK (fm last op) cs cs.length else 0
theorem keepV_no {last : Int} {op : List Int} {cs : List Vc} (h : goodMk last op cs = false) : keepV last op cs = 0 := by unfold keepV; rw [if_neg (by rw [h]; decide)]
theorem keepV_yes {last : Int} {op : List Int} {cs : List Vc} (h : goodMk last op cs = true) : keepV last op cs = keepK (fm last op) cs cs.length := by unfold keepV; rw [if_pos h]
theorem min_ite {a b : Int} : min a b = if b < a then b else a := by split <;> omega
theorem keepK_in {b : Int} {cs : List Vc} (hb : 1 ≤ b ∧ b ≤ 100001) (hg : ∀ k, k < cs.length → GoodN (vat cs k).2.1 (vat cs k).2.2) : ∀ {k : Nat}, k ≤ cs.length → 1 ≤ keepK b cs k ∧ keepK b cs k ≤ 100001
  | 0, _ => by rw [keepK_zero]; exact hb
  | k + 1, hk => by
    rw [keepK_snoc (by omega)]
    have h1 := keepK_in hb hg (k := k) (by omega)
    have h2 := fm_in (hg k (by omega))
    have h3 := (hg k (by omega)).1
    omega

set_option maxHeartbeats 2000000 in
set_option maxRecDepth 100000 in
theorem keepI (last : Int) (oo : Option Addr) (oc : Nat) (op : List Int) (ro : Option Addr) (rc n : Nat) (g : Nat → Vw) (hp : op.length ≤ 1048576) (hn : n ≤ 1048576) (hm : ∀ k, k < n → (g k).xs.length ≤ 1048576) (w : World) (h : MH w w.heap.size oo op ro n g) :
    Calls Try.prog 36 #[.agg #[.int .i64 last, .slice oo op.length oc, .slice ro n rc]] w fun e w' => e = .returned (.tuple #[.int .i64 (keepV last op (conL n g)), .bool (goodMk last op (conL n g))]) ∧ Below w.heap.size w w' := by
  have HB0 := Lib.hid ((Below.refl w.heap.size w).alloc (Nat.le_refl _) (.cells #[.int .i64 last, .slice oo op.length oc, .slice ro n rc] 30))
  have H0 := Lib.hid (h.below HB0.out.size HB0.out)
  have HC := Lib.hid (ledgerI last oo oc op ro rc n g hp hn hm _ H0.out)
  have HM := Lib.hid hm
  clear h hm
  cases hgm : goodMk last op (conL n g) with
  | false =>
    rw [keepV_no hgm]
    rw [hgm] at HC
    clear hgm
    go_enter Try.func36, Try.ntmps36
    go_wp2_with fail
    refine HC.out.mono ?_
    rintro e w1 ⟨lo, lc, rfl, _, hb1⟩
    have HB1 := Lib.hid (HB0.out.trans (hb1.mono HB0.out.size))
    clear hb1
    go_wp2
    go_ret2
    exact ⟨rfl, HB1.out.alloc HB1.out.size _⟩
  | true =>
    have hG := goodMk_is hgm
    have hg1 := hG.1
    have hgn : ∀ k, k < (conL n g).length → GoodN (vat (conL n g) k).2.1 (vat (conL n g) k).2.2 := fun k hk => (hG.2.2 k hk).1.num hg1.1.2
    have HGN := Lib.hid hgn
    have HKI := Lib.hid (fun k (hk : k ≤ n) => keepK_in (b := fm last op) (cs := conL n g) ⟨(fm_in hg1).1, by have := fm_in hg1; have := hg1.1; omega⟩ hgn (k := k) (by rw [conL_len]; exact hk))
    have HD := Lib.hid (fun W hW => firstI last oo oc op hg1.1.2 hg1.1.1 hp W hW)
    have h8 : n ≤ 8 := by have := hG.2.1; rwa [conL_len] at this
    rw [keepV_yes hgm, conL_len]
    rw [hgm] at HC
    clear hgm hg1 hG hgn
    have HK0 : Hid (fm last op = keepK (fm last op) (conL n g) 0) := Lib.hid (keepK_zero _ _).symm
    generalize fm last op = y at HD HKI HK0 ⊢
    go_enter Try.func36, Try.ntmps36
    go_wp2_with fail
    refine HC.out.mono ?_
    rintro e w1 ⟨lo, lc, rfl, hO, hb1⟩
    have hba := (Below.refl w1.heap.size w1).alloc (Nat.le_refl _) (.cells #[.int .i64 last, .slice oo op.length oc, .slice lo n lc] 61)
    have HB1 := Lib.hid ((HB0.out.trans (hb1.mono HB0.out.size)).trans (hba.mono (Nat.le_trans HB0.out.size hb1.size)))
    have hMH := (H0.out.below hb1.size hb1)
    have HV := Lib.hid ((vf_own rC_len hO hMH.2.2).below hba.size hba)
    have H1 := Lib.hid (hMH.1.below hba.size hba)
    have HX := Lib.hid (B3.new w1 (.int .i64 last) (.slice oo op.length oc) (.slice lo n lc) 61)
    clear hb1 hba hMH hO HC
    go_wp2_with fail
    generalize w1.alloc (.cells #[.int .i64 last, .slice oo op.length oc, .slice lo n lc] 61) = w2 at HB1 HV H1 HX ⊢
    refine (HD.out _ H1.out).mono ?_
    rintro e w3 ⟨rfl, hb3⟩
    have HB3 := Lib.hid (HB1.out.trans (hb3.mono HB1.out.size))
    have HV3 := Lib.hid (HV.out.below hb3.size hb3)
    obtain ⟨x0, x1, x2⟩ := (HX.out.below hb3).cells
    clear hb3 HB1 HV H1 HD
    go_wp2
    go_loopw [6, 22] (fun b i wr => ∃ k : Nat, k ≤ n ∧ i = .int .i64 k ∧ b = .int .i64 (keepK y (conL n g) k) ∧ Hid (Below w3.heap.size w3 wr)) (fun _ i _ => n - (intOf i).toNat)
    case atStart => exact ⟨0, Nat.zero_le _, rfl, by rw [← HK0.out], Lib.hid (Below.refl _ _)⟩
    case round =>
      obtain ⟨k, hk, rfl, rfl, hB⟩ := hrel
      by_cases hlt : k < n
      · have hA := HV3.out.below hB.out.size hB.out
        obtain ⟨b, off, hao, hbl, c0, c1, c2⟩ := hA.oneR hlt
        subst hao
        have hi1 := hA.2 k hlt
        have hb2 := (Below.refl wr.heap.size wr).alloc (Nat.le_refl _) (.cells #[.int .i64 (g k).top, .slice (g k).ao (g k).xs.length (g k).cap, .int .i64 (g k).id] 85)
        have HB2 := Lib.hid (hB.out.alloc hB.out.size (.cells #[.int .i64 (g k).top, .slice (g k).ao (g k).xs.length (g k).cap, .int .i64 (g k).id] 85))
        have hgk := HGN.out k (by rw [conL_len]; exact hlt)
        have hvk := conL_at (g := g) hlt
        have hks := keepK_snoc (b := y) (l := conL n g) (k := k) (by rw [conL_len]; exact hlt)
        rw [hvk] at hgk hks
        have HF := Lib.hid (firstI (g k).top (g k).ao (g k).cap (g k).xs hgk.1.2 hgk.1.1 (HM.out k hlt) _ (hi1.below hb2.size hb2))
        have HK := Lib.hid hks
        clear hA hi1 hb2 hgk hvk hks
        rw [show (g k).con.2.1 = (g k).top from rfl, show (g k).con.2.2 = (g k).xs from rfl] at HK
        generalize g k = v at c0 c1 c2 HB2 HF HK
        generalize keepK y (conL n g) k = z at HK ⊢
        generalize fm v.top v.xs = z2 at HF HK
        rw [min_ite] at HK
        obtain ⟨m, hmz⟩ : ∃ m, (if z2 < z then z2 else z) = m := ⟨_, rfl⟩
        rw [hmz] at HK
        go_wp2_with fail
        refine HF.out.mono ?_
        rintro e w4 ⟨rfl, hb4⟩
        have HB4 := Lib.hid (HB2.out.trans (hb4.mono HB2.out.size))
        clear hb4
        go_wp2
        go_roundw
        case rel => exact ⟨k + 1, by omega, by go_num, by rw [HK.out], HB4⟩
        case measure => simp [intOf]; omega
      · obtain rfl : k = n := by omega
        have HE := Lib.hid (HB3.out.trans (hB.out.mono HB3.out.size))
        go_wp2
        go_ret2
        exact ⟨rfl, HE.out⟩

theorem leastM (a b m : Int) (hm : min a b = m) (w : World) : Calls Try.prog 70 #[.int .i64 a, .int .i64 b] w fun e w' => e = .returned (.int .i64 m) ∧ w = w' := by
  by_cases h : a < b
  · obtain rfl : m = a := by omega
    clear hm
    go_enter Try.func70, Try.ntmps70
    go_wp2
    go_ret
    exact ⟨rfl, rfl⟩
  · obtain rfl : m = b := by omega
    clear hm
    go_enter Try.func70, Try.ntmps70
    go_wp2
    go_ret
    exact ⟨rfl, rfl⟩

/-- What is least behind the first j numbers of a view. -/
def stepK (z : Int) (v : Vw) (j : Nat) : Int := if j = 0 then min z (v.top + 1) else min z (at0 v.xs 0)
theorem stepK_more {z : Int} {v : Vw} {j : Nat} (hg : GoodN v.top v.xs) (hj : j < v.xs.length) : min (stepK z v j) (at0 v.xs j) = stepK z v (j + 1) := by
  unfold stepK
  rw [if_neg (show ¬ j + 1 = 0 by omega)]
  by_cases e : j = 0
  · subst e
    rw [if_pos rfl]
    have := hg.2.2 0 hj
    omega
  · rw [if_neg e]
    have := upR_lt hg.2.2.rise (i := 0) (j := j) (by omega) hj
    omega
theorem stepK_all {z : Int} {v : Vw} : stepK z v v.xs.length = min z (fm v.top v.xs) := by
  unfold stepK
  by_cases h : v.xs.length = 0
  · rw [if_pos h, List.eq_nil_of_length_eq_zero h, fm_nil]
  · rw [if_neg h, fm_cons (by omega)]

set_option maxHeartbeats 4000000 in
set_option maxRecDepth 100000 in
theorem keepM (last : Int) (oo : Option Addr) (oc : Nat) (op : List Int) (ro : Option Addr) (rc n : Nat) (g : Nat → Vw) (hp : op.length ≤ 1048576) (hn : n ≤ 1048576) (hm : ∀ k, k < n → (g k).xs.length ≤ 1048576) (w : World) (h : MH w w.heap.size oo op ro n g) :
    Calls Try.prog 35 #[.agg #[.int .i64 last, .slice oo op.length oc, .slice ro n rc]] w fun e w' => e = .returned (.tuple #[.int .i64 (keepV last op (conL n g)), .bool (goodMk last op (conL n g))]) ∧ Below w.heap.size w w' := by
  have HB0 := Lib.hid ((Below.refl w.heap.size w).alloc (Nat.le_refl _) (.cells #[.int .i64 last, .slice oo op.length oc, .slice ro n rc] 30))
  have HX0 := Lib.hid (B3.new w (.int .i64 last) (.slice oo op.length oc) (.slice ro n rc) 30)
  have H0 := Lib.hid (h.below HB0.out.size HB0.out)
  have HC := Lib.hid (goodL last oo oc op ro rc n g hp hn hm _ H0.out)
  have HM := Lib.hid hm
  clear h hm
  cases hgm : goodMk last op (conL n g) with
  | false =>
    rw [keepV_no hgm]
    rw [hgm] at HC
    clear hgm
    go_enter Try.func35, Try.ntmps35
    go_wp2_with fail
    refine HC.out.mono ?_
    rintro e w1 ⟨rfl, hb1⟩
    have HB1 := Lib.hid (HB0.out.trans (hb1.mono HB0.out.size))
    clear hb1
    go_wp2
    go_ret2
    exact ⟨rfl, HB1.out⟩
  | true =>
    have hG := goodMk_is hgm
    have hg1 := hG.1
    have hgn : ∀ k, k < (conL n g).length → GoodN (vat (conL n g) k).2.1 (vat (conL n g) k).2.2 := fun k hk => (hG.2.2 k hk).1.num hg1.1.2
    have HGN := Lib.hid hgn
    have HD := Lib.hid (fun W hW => low9M last oo oc op ro rc n hg1 W hW)
    have hf := fm_in hg1
    have hl2 := hg1.1.2
    have h8 : n ≤ 8 := by have := hG.2.1; rwa [conL_len] at this
    have HKI := Lib.hid (fun k (hk : k ≤ n) => keepK_in (b := fm last op) (cs := conL n g) ⟨(fm_in hg1).1, by have := fm_in hg1; have := hg1.1; omega⟩ hgn (k := k) (by rw [conL_len]; exact hk))
    rw [keepV_yes hgm, conL_len]
    rw [hgm] at HC
    clear hgm hg1 hG hgn
    have HK0 : Hid (fm last op = keepK (fm last op) (conL n g) 0) := Lib.hid (keepK_zero _ _).symm
    generalize fm last op = y at HD hf HK0 HKI ⊢
    have hf1 := hf.1; have hf2 := hf.2
    have hy : y - 1 + 1 = y := by omega
    clear hf
    go_enter Try.func35, Try.ntmps35
    go_wp2_with fail
    refine HC.out.mono ?_
    rintro e w1 ⟨rfl, hb1⟩
    have HB1 := Lib.hid (HB0.out.trans (hb1.mono HB0.out.size))
    have HX1 := Lib.hid (HX0.out.below hb1)
    obtain ⟨x0, x1, x2⟩ := HX1.out.cells
    have H1 := Lib.hid (H0.out.below hb1.size hb1)
    clear hb1 HB0 HX0 H0 HC
    go_wp2_with fail
    refine (HD.out _ H1.out.1).mono ?_
    rintro e w2 ⟨rfl, hb2⟩
    have HB2 := Lib.hid (HB1.out.trans (hb2.mono HB1.out.size))
    have HV2 := Lib.hid (H1.out.2.below hb2.size hb2)
    clear x0 x1 x2
    obtain ⟨x0, x1, x2⟩ := (HX1.out.below hb2).cells
    clear hb2 HB1 HX1 H1 HD
    go_wp2
    go_loopw [4, 18] (fun b i wr => ∃ k : Nat, k ≤ n ∧ i = .int .i64 k ∧ b = .int .i64 (keepK y (conL n g) k) ∧ Hid (Below w2.heap.size w2 wr)) (fun _ i _ => n - (intOf i).toNat)
    case atStart => exact ⟨0, Nat.zero_le _, rfl, by rw [← HK0.out], Lib.hid (Below.refl _ _)⟩
    case round =>
      obtain ⟨k, hk, rfl, rfl, hB⟩ := hrel
      by_cases hlt : k < n
      · have hA := HV2.out.below hB.out.size hB.out
        obtain ⟨b, off, hao, hbl, c0, c1, c2⟩ := hA.oneV hlt
        subst hao
        have hi1 := hA.2 k hlt
        have hb2 := (Below.refl wr.heap.size wr).alloc (Nat.le_refl _) (.cells #[.int .i64 (g k).id, .int .i64 (g k).top, .slice (g k).ao (g k).xs.length (g k).cap] 43)
        have HB2' := Lib.hid (hB.out.alloc hB.out.size (.cells #[.int .i64 (g k).id, .int .i64 (g k).top, .slice (g k).ao (g k).xs.length (g k).cap] 43))
        have HIr := Lib.hid (hi1.below hb2.size hb2)
        have hgk := HGN.out k (by rw [conL_len]; exact hlt)
        have hvk := conL_at (g := g) hlt
        have hks := keepK_snoc (b := y) (l := conL n g) (k := k) (by rw [conL_len]; exact hlt)
        rw [hvk] at hgk hks
        rw [show (g k).con.2.1 = (g k).top from rfl, show (g k).con.2.2 = (g k).xs from rfl] at hgk hks
        have hkr := HKI.out k (by omega)
        have HK := Lib.hid hks
        have HGk := Lib.hid hgk
        have ht0 := hgk.1.1; have ht1 := hgk.1.2
        have hx8 := hgk.2.1
        clear hA hi1 hb2 hgk hvk hks
        generalize g k = v at c0 c1 c2 HB2' HIr HK HGk ht0 ht1 hx8
        generalize keepK y (conL n g) k = z at HK hkr ⊢
        have hz1 := hkr.1; have hz2 := hkr.2
        clear hkr
        obtain ⟨vi, vt, va, vc, vx⟩ := v
        simp only at c0 c1 c2 HB2' HIr HK HGk ht0 ht1 hx8
        have HS0 : Hid (min z (vt + 1) = stepK z ⟨vi, vt, va, vc, vx⟩ 0) := Lib.hid (by simp [stepK])
        have HSm := Lib.hid (fun j (hj : j < vx.length) => stepK_more (z := z) (v := ⟨vi, vt, va, vc, vx⟩) HGk.out hj)
        have HSa : Hid (stepK z ⟨vi, vt, va, vc, vx⟩ vx.length = min z (fm vt vx)) := Lib.hid (stepK_all (z := z) (v := ⟨vi, vt, va, vc, vx⟩))
        have HXb := Lib.hid (fun j (hj : j < vx.length) => (HGk.out.2.2 j hj))
        by_cases hlz : vt + 1 < z
        · have HZ : Hid (vt + 1 = stepK z ⟨vi, vt, va, vc, vx⟩ 0) := Lib.hid (by have := HS0.out; omega)
          clear HS0
          go_wp2
          go_loop [4, 33] (fun b i => ∃ j : Nat, j ≤ vx.length ∧ i = .int .i64 j ∧ b = .int .i64 (stepK z ⟨vi, vt, va, vc, vx⟩ j)) (fun _ i => vx.length - (intOf i).toNat)
          case atStart => exact ⟨0, Nat.zero_le _, rfl, by rw [← HZ.out]⟩
          case round =>
            obtain ⟨j, hj, rfl, rfl⟩ := hrel
            by_cases hjl : j < vx.length
            · obtain ⟨b', off', hva, hbl', hcx⟩ := HIr.out.2 (by omega)
              subst hva
              have d0 := hcx j hjl
              rw [← at0_get hjl] at d0
              have HSj := Lib.hid (HSm.out j hjl)
              clear hcx
              generalize at0 vx j = y1 at d0 HSj
              generalize stepK z ⟨vi, vt, some ⟨b', off', none⟩, vc, vx⟩ j = z1 at HSj ⊢
              have HLs := Lib.hid (fun W => leastM z1 y1 _ rfl W)
              go_wp2_with fail
              refine (HLs.out _).mono ?_
              rintro e w4 ⟨rfl, rfl⟩
              go_wp2
              go_round
              case rel => exact ⟨j + 1, by omega, by go_num, by rw [← HSj.out]⟩
              case measure => simp [intOf]; omega
            · obtain rfl : j = vx.length := by omega
              rw [HSa.out, ← HK.out]
              go_wp2
              go_roundw
              case rel => exact ⟨k + 1, by omega, by go_num, rfl, HB2'⟩
              case measure => simp [intOf]; omega
        · have HZ : Hid (z = stepK z ⟨vi, vt, va, vc, vx⟩ 0) := Lib.hid (by have := HS0.out; omega)
          clear HS0
          go_wp2
          go_loop [4, 33] (fun b i => ∃ j : Nat, j ≤ vx.length ∧ i = .int .i64 j ∧ b = .int .i64 (stepK z ⟨vi, vt, va, vc, vx⟩ j)) (fun _ i => vx.length - (intOf i).toNat)
          case atStart => exact ⟨0, Nat.zero_le _, rfl, by rw [← HZ.out]⟩
          case round =>
            obtain ⟨j, hj, rfl, rfl⟩ := hrel
            by_cases hjl : j < vx.length
            · obtain ⟨b', off', hva, hbl', hcx⟩ := HIr.out.2 (by omega)
              subst hva
              have d0 := hcx j hjl
              rw [← at0_get hjl] at d0
              have HSj := Lib.hid (HSm.out j hjl)
              clear hcx
              generalize at0 vx j = y1 at d0 HSj
              generalize stepK z ⟨vi, vt, some ⟨b', off', none⟩, vc, vx⟩ j = z1 at HSj ⊢
              have HLs := Lib.hid (fun W => leastM z1 y1 _ rfl W)
              go_wp2_with fail
              refine (HLs.out _).mono ?_
              rintro e w4 ⟨rfl, rfl⟩
              go_wp2
              go_round
              case rel => exact ⟨j + 1, by omega, by go_num, by rw [← HSj.out]⟩
              case measure => simp [intOf]; omega
            · obtain rfl : j = vx.length := by omega
              rw [HSa.out, ← HK.out]
              go_wp2
              go_roundw
              case rel => exact ⟨k + 1, by omega, by go_num, rfl, HB2'⟩
              case measure => simp [intOf]; omega
      · obtain rfl : k = n := by omega
        have HE := Lib.hid (HB2.out.trans (hB.out.mono HB2.out.size))
        go_wp2
        go_ret2
        exact ⟨rfl, HE.out⟩

section
variable (last : Int) (op : List Int) (cs : List Vc) (hs : SmallC cs) (hp : op.length ≤ 1048576)
include hs hp
theorem keepFromM' (oo : Option Addr) (oc : Nat) (ro : Option Addr) (rc n : Nat) (g : Nat → Vw) (hc : conL n g = cs) (w : World) (h : MH w w.heap.size oo op ro n g) :
    Calls Try.prog 35 #[.agg #[.int .i64 last, .slice oo op.length oc, .slice ro n rc]] w fun e w' => e = .returned (.tuple #[.int .i64 (keepV last op cs), .bool (goodMk last op cs)]) ∧ Below w.heap.size w w' := by
  subst hc
  exact keepM last oo oc op ro rc n g hp (small_n hs) (small_m hs) w h
theorem keepFromI' (oo : Option Addr) (oc : Nat) (ro : Option Addr) (rc n : Nat) (g : Nat → Vw) (hc : conL n g = cs) (w : World) (h : MH w w.heap.size oo op ro n g) :
    Calls Try.prog 36 #[.agg #[.int .i64 last, .slice oo op.length oc, .slice ro n rc]] w fun e w' => e = .returned (.tuple #[.int .i64 (keepV last op cs), .bool (goodMk last op cs)]) ∧ Below w.heap.size w w' := by
  subst hc
  exact keepI last oo oc op ro rc n g hp (small_n hs) (small_m hs) w h
end
end Go.Proofs.Ytabkjjbhnapgpaa
