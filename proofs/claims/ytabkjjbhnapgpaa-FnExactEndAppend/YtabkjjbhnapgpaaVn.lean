/- Contracts of the model: whether marks are good; over this seat's translation. -/
import Derived.Test.YtabkjjbhnapgpaaVm
import Derived.Test.YtabkjjbhnapgpaaLt
namespace Go.Proofs.Ytabkjjbhnapgpaa
open Go.RowKit Go.Deep Go.ChangeShapes Go.WideShapes Go.ChangeAt

theorem goodMk_last {last : Int} {op : List Int} {l : List Vc} (h : ¬ (0 ≤ last ∧ last ≤ 100000)) : goodMk last op l = false := goodMk_no fun g => h g.1.1
theorem goodMk_len {last : Int} {op : List Int} {l : List Vc} (h : ¬ op.length ≤ 8) : goodMk last op l = false := goodMk_no fun g => h g.1.2.1
theorem goodMk_up {last : Int} {op : List Int} {l : List Vc} (h : up 1 last op = false) : goodMk last op l = false := goodMk_no fun g => by rw [up_yes g.1.2.2] at h; cases h
theorem goodMk_many {last : Int} {op : List Int} {l : List Vc} (h : ¬ l.length ≤ 8) : goodMk last op l = false := goodMk_no fun g => h g.2.1
theorem goodMk_view {last : Int} {op : List Int} {l : List Vc} {k : Nat} (hk : k < l.length) (h : goodV last (vat l k) = false) : goodMk last op l = false := goodMk_no fun g => by rw [goodV_yes (g.2.2 k hk).1] at h; cases h
theorem goodMk_flat {last : Int} {op : List Int} {l : List Vc} {k : Nat} (hk : k + 1 < l.length) (h : (vat l (k + 1)).1 ≤ (vat l k).1) : goodMk last op l = false := goodMk_no fun g => by
  have := (g.2.2 (k + 1) hk).2 (by omega)
  rw [Nat.add_sub_cancel] at this
  omega

set_option maxHeartbeats 4000000 in
set_option maxRecDepth 100000 in
theorem goodL (last : Int) (oo : Option Addr) (oc : Nat) (op : List Int) (ro : Option Addr) (rc n : Nat) (g : Nat → Vw) (hp : op.length ≤ 1048576) (hn : n ≤ 1048576) (hm : ∀ k, k < n → (g k).xs.length ≤ 1048576) (w : World) (h : MH w w.heap.size oo op ro n g) :
    Calls Try.prog 39 #[.agg #[.int .i64 last, .slice oo op.length oc, .slice ro n rc]] w fun e w' => e = .returned (.bool (goodMk last op (conL n g))) ∧ Below w.heap.size w w' := by
  have hb0 := (Below.refl w.heap.size w).alloc (Nat.le_refl _) (.cells #[.int .i64 last, .slice oo op.length oc, .slice ro n rc] 30)
  have HB0 := Lib.hid hb0
  have HX0 := Lib.hid (B3.new w (.int .i64 last) (.slice oo op.length oc) (.slice ro n rc) 30)
  have H0 := Lib.hid (h.below hb0.size hb0)
  have HM := Lib.hid hm
  clear h hb0 hm
  by_cases h1 : 0 ≤ last ∧ last ≤ 100000
  case neg =>
    have HG := Lib.hid (goodMk_last (op := op) (l := conL n g) h1)
    have HC := Lib.hid (fun W => inM last 0 100000 false (by simp; omega) W)
    clear h1
    go_enter Try.func39, Try.ntmps39
    go_wp2_with fail
    refine (HC.out _).mono ?_
    rintro e w1 ⟨rfl, rfl⟩
    go_wp2
    go_ret
    exact ⟨ret_bool HG.out.symm, HB0.out⟩
  have HC := Lib.hid (fun W => inM last 0 100000 true (by simp; omega) W)
  by_cases h2 : op.length ≤ 8
  case neg =>
    have HG := Lib.hid (goodMk_len (last := last) (l := conL n g) h2)
    have h2d : decide (8 < (op.length : Int)) = true := decide_eq_true (by omega)
    clear h1 h2
    go_enter Try.func39, Try.ntmps39
    go_wp2_with fail
    refine (HC.out _).mono ?_
    rintro e w1 ⟨rfl, rfl⟩
    go_wp2
    go_ret
    exact ⟨ret_bool HG.out.symm, HB0.out⟩
  have h2d : decide (8 < (op.length : Int)) = false := decide_eq_false (by omega)
  have HR := Lib.hid (risingM 1 last oo oc op hp _ H0.out.1)
  cases hu : up 1 last op with
  | false =>
    have HG := Lib.hid (goodMk_up (l := conL n g) hu)
    rw [hu] at HR
    clear h1 h2 hu
    go_enter Try.func39, Try.ntmps39
    go_wp2_with fail
    refine (HC.out _).mono ?_
    rintro e w1 ⟨rfl, rfl⟩
    go_wp2_with fail
    refine HR.out.mono ?_
    rintro e w1 ⟨rfl, rfl⟩
    go_wp2
    go_ret
    exact ⟨ret_bool HG.out.symm, HB0.out⟩
  | true =>
  have HGN : Hid (GoodN last op) := Lib.hid ⟨h1, h2, up_is hu⟩
  rw [hu] at HR
  by_cases h3 : n ≤ 8
  case neg =>
    have HG := Lib.hid (goodMk_many (last := last) (op := op) (l := conL n g) (by rw [conL_len]; exact h3))
    have h3d : decide (8 < (n : Int)) = true := decide_eq_true (by omega)
    clear h1 h2 hu h3
    go_enter Try.func39, Try.ntmps39
    go_wp2_with fail
    refine (HC.out _).mono ?_
    rintro e w1 ⟨rfl, rfl⟩
    go_wp2_with fail
    refine HR.out.mono ?_
    rintro e w1 ⟨rfl, rfl⟩
    go_wp2
    go_ret
    exact ⟨ret_bool HG.out.symm, HB0.out⟩
  have h3d : decide (8 < (n : Int)) = false := decide_eq_false (by omega)
  have HVw := Lib.hid (fun k (hk : k < n) W hW => viewM last oo ro op.length oc n rc (g k) (HM.out k hk) W hW)
  clear h1 h2 hu HM
  go_enter Try.func39, Try.ntmps39
  go_wp2_with fail
  refine (HC.out _).mono ?_
  rintro e w1 ⟨rfl, rfl⟩
  go_wp2_with fail
  refine HR.out.mono ?_
  rintro e w1 ⟨rfl, rfl⟩
  go_wp2
  generalize w.alloc (.cells #[.int .i64 last, .slice oo op.length oc, .slice ro n rc] 30) = W at HX0 H0 HB0 ⊢
  clear HC HR
  go_loopw [32] (fun i wr => ∃ k : Nat, k ≤ n ∧ i = .int .i64 k ∧ Hid (vTo last (conL n g) k) ∧ Hid (Below W.heap.size W wr)) (fun i _ => n - (intOf i).toNat)
  case atStart => exact ⟨0, Nat.zero_le _, rfl, Lib.hid (fun t ht => by omega), Lib.hid (Below.refl _ _)⟩
  case round =>
    obtain ⟨k, hk, rfl, hI, hB⟩ := hrel
    by_cases hlt : k < n
    · have hA1 := H0.out.2.after hB.out
      obtain ⟨b, off, hao, hbl, c0, c1, c2⟩ := hA1.oneV hlt
      subst hao
      have hi1 := hA1.2 k hlt
      obtain ⟨x0, x1, x2⟩ := (HX0.out.below hB.out).cells
      have hvk := conL_at (g := g) hlt
      have HVk := Lib.hid (HVw.out k hlt)
      have HX1 := Lib.hid (HX0.out.below hB.out)
      have HB2 := Lib.hid (hB.out.alloc hB.out.size (.cells #[.int .i64 (g k).id, .int .i64 (g k).top, .slice (g k).ao (g k).xs.length (g k).cap] 43))
      have hb2 := (Below.refl wr.heap.size wr).alloc (Nat.le_refl _) (.cells #[.int .i64 (g k).id, .int .i64 (g k).top, .slice (g k).ao (g k).xs.length (g k).cap] 43)
      have HY1 := Lib.hid (B3.new wr (.int .i64 (g k).id) (.int .i64 (g k).top) (.slice (g k).ao (g k).xs.length (g k).cap) 43)
      have HX2 := Lib.hid (HX1.out.below hb2)
      have hi2 := hi1.below hb2.size hb2
      cases hgv : goodV last (g k).con with
      | false =>
        have HG := Lib.hid (goodMk_view (op := op) (l := conL n g) (k := k) (by rw [conL_len]; exact hlt) (by rw [hvk]; exact hgv))
        rw [hgv] at HVk
        clear hA1 hvk hgv hi1 hb2 HX1 hI
        generalize g k = v at c0 c1 c2 hi2 HVk HB2 HY1 HX2
        obtain ⟨vi, vt, va, vc, vx⟩ := v
        simp only at c0 c1 c2 hi2 HVk HB2 HY1 HX2
        have HVk := Lib.hid (fun U (hU : Below _ _ U) => HVk.out U (hi2.below hU.size hU))
        clear hi2
        go_wp2_with fail
        generalize wr.alloc (.cells #[.int .i64 vi, .int .i64 vt, .slice va vx.length vc] 43) = W2 at HB2 HX2 HY1 HVk ⊢
        clear x0 x1 x2 c0 c1 c2
        obtain ⟨x0, x1, x2⟩ := HX2.out.cells
        obtain ⟨y0, y1, y2⟩ := HY1.out.cells
        clear x0 x1 x2 y0 y1 y2
        obtain ⟨x0, x1, x2⟩ := HX2.out.later
        obtain ⟨y0, y1, y2⟩ := HY1.out.later
        refine region_later (by kernel_rfl) (by kernel_rfl) ?_
        repeat (go_big_quiet_step ((go_at_call 73; exact Later.call _ (HVk.out _ (Later.b _)))))
        refine wpQuiet_nil ?_
        rintro _ ⟨U, rfl⟩
        have hb1 := U.b
        have HB3 := Lib.hid (HB0.out.trans ((HB2.out.trans (hb1.mono HB2.out.size)).mono HB0.out.size))
        clear hb1
        go_wp2
        go_ret
        exact ⟨ret_bool HG.out.symm, HB3.out⟩
      | true =>
        rw [hgv] at HVk
        by_cases hk0 : k = 0
        case pos =>
          subst hk0
          have HI := Lib.hid (vTo_more hI.out (by rw [hvk]; exact goodV_is hgv) (by omega))
          clear hA1 hvk hgv hi1 hb2 HX1 hI
          generalize g 0 = v at c0 c1 c2 hi2 HVk HB2 HY1 HX2
          obtain ⟨vi, vt, va, vc, vx⟩ := v
          simp only at c0 c1 c2 hi2 HVk HB2 HY1 HX2
          rw [Nat.zero_mul, Nat.add_zero] at c0 c1 c2
          have HVk := Lib.hid (fun U (hU : Below _ _ U) => HVk.out U (hi2.below hU.size hU))
          clear hi2
          have hkz : decide (0 < (0 : Int)) = false := by decide
          go_wp2_with fail
          generalize wr.alloc (.cells #[.int .i64 vi, .int .i64 vt, .slice va vx.length vc] 43) = W2 at HB2 HX2 HY1 HVk ⊢
          clear x0 x1 x2 c0 c1 c2
          obtain ⟨x0, x1, x2⟩ := HX2.out.cells
          obtain ⟨y0, y1, y2⟩ := HY1.out.cells
          clear x0 x1 x2 y0 y1 y2
          obtain ⟨x0, x1, x2⟩ := HX2.out.later
          obtain ⟨y0, y1, y2⟩ := HY1.out.later
          refine region_later (by kernel_rfl) (by kernel_rfl) ?_
          repeat (go_big_quiet_step ((go_at_call 73; exact Later.call _ (HVk.out _ (Later.b _)))))
          refine wpQuiet_nil ?_
          rintro _ ⟨U, rfl⟩
          have hb1 := U.b
          have HB3 := Lib.hid (HB2.out.trans (hb1.mono HB2.out.size))
          clear hb1
          go_wp2
          go_roundw
          case rel => exact ⟨1, by omega, by go_num, HI, HB3⟩
          case measure => simp [intOf]; omega
        case neg =>
          obtain ⟨j, hjk⟩ : ∃ j, j + 1 = k := ⟨k - 1, by omega⟩
          have hj : j < n := by omega
          obtain ⟨b', off', hao', _, d0, _, _⟩ := hA1.oneV hj
          injection hao' with hao'
          injection hao' with e1 e2
          subst e1 e2
          have hw : IntKind.i64.wrap ((k : Int) - 1) = (j : Int) := by rw [show (k : Int) - 1 = (j : Int) by omega]; exact IntWalk.i64_in _ (by omega)
          have hj0 : (0 : Int) ≤ (j : Int) := by omega
          have hjl : (j : Int) < (n : Int) := by omega
          have hjt : ((j : Int)).toNat = j := by omega
          have hkp : decide (0 < (k : Int)) = true := decide_eq_true (by omega)
          have hjk' : k - 1 = j := by omega
          have hkq : 0 < k := by omega
          have hb2d := (hb2.cell (p := ⟨b, off + j * 3, none⟩) hbl).trans d0
          have hvj := conL_at (g := g) hj
          have HBl : Hid (b < (wr.alloc (.cells #[.int .i64 (g k).id, .int .i64 (g k).top, .slice (g k).ao (g k).xs.length (g k).cap] 43)).heap.size) := Lib.hid (Nat.lt_of_lt_of_le hbl hb2.size)
          by_cases hup : (g j).id < (g k).id
          · have HI := Lib.hid (vTo_more hI.out (by rw [hvk]; exact goodV_is hgv) (fun _ => by rw [hjk', hvk, hvj]; exact hup))
            have hupd : decide ((g k).id ≤ (g j).id) = false := decide_eq_false (by omega)
            clear hA1 hvk hgv hi1 hb2 HX1 hI hvj d0 hup hjk hjk' hk0
            generalize g j = u at hb2d hupd
            generalize g k = v at c0 c1 c2 hi2 HVk HB2 HY1 HX2 hb2d HBl hupd
            obtain ⟨vi, vt, va, vc, vx⟩ := v
            obtain ⟨ui, ut, ua, uc, ux⟩ := u
            simp only at c0 c1 c2 hi2 HVk HB2 HY1 HX2 hb2d HBl hupd
            have HVk := Lib.hid (fun U (hU : Below _ _ U) => HVk.out U (hi2.below hU.size hU))
            clear hi2
            go_wp2_with fail
            generalize wr.alloc (.cells #[.int .i64 vi, .int .i64 vt, .slice va vx.length vc] 43) = W2 at HB2 HX2 HY1 HVk hb2d HBl ⊢
            clear x0 x1 x2 c0 c1 c2
            obtain ⟨x0, x1, x2⟩ := HX2.out.cells
            obtain ⟨y0, y1, y2⟩ := HY1.out.cells
            clear x0 x1 x2 y0 y1 y2
            obtain ⟨x0, x1, x2⟩ := HX2.out.later
            obtain ⟨y0, y1, y2⟩ := HY1.out.later
            have z0 := later_cell hb2d
            clear hb2d
            refine region_later (by kernel_rfl) (by kernel_rfl) ?_
            repeat (go_big_quiet_step ((go_at_call 73; exact Later.call _ (HVk.out _ (Later.b _)))))
            refine wpQuiet_nil ?_
            rintro _ ⟨U, rfl⟩
            have hb1 := U.b
            have HB3 := Lib.hid (HB2.out.trans (hb1.mono HB2.out.size))
            clear hb1
            go_wp2
            go_roundw
            case rel => exact ⟨k + 1, by omega, by go_num, HI, HB3⟩
            case measure => simp [intOf]; omega
          · have HG := Lib.hid (goodMk_flat (last := last) (op := op) (l := conL n g) (k := j) (by rw [conL_len, hjk]; exact hlt) (by rw [hjk, hvk, hvj]; show (g k).id ≤ (g j).id; omega))
            have hupd : decide ((g k).id ≤ (g j).id) = true := decide_eq_true (by omega)
            clear hA1 hvk hgv hi1 hb2 HX1 hI hvj d0 hup hjk hjk' hk0
            generalize g j = u at hb2d hupd
            generalize g k = v at c0 c1 c2 hi2 HVk HB2 HY1 HX2 hb2d HBl hupd
            obtain ⟨vi, vt, va, vc, vx⟩ := v
            obtain ⟨ui, ut, ua, uc, ux⟩ := u
            simp only at c0 c1 c2 hi2 HVk HB2 HY1 HX2 hb2d HBl hupd
            have HVk := Lib.hid (fun U (hU : Below _ _ U) => HVk.out U (hi2.below hU.size hU))
            clear hi2
            go_wp2_with fail
            generalize wr.alloc (.cells #[.int .i64 vi, .int .i64 vt, .slice va vx.length vc] 43) = W2 at HB2 HX2 HY1 HVk hb2d HBl ⊢
            clear x0 x1 x2 c0 c1 c2
            obtain ⟨x0, x1, x2⟩ := HX2.out.cells
            obtain ⟨y0, y1, y2⟩ := HY1.out.cells
            clear x0 x1 x2 y0 y1 y2
            obtain ⟨x0, x1, x2⟩ := HX2.out.later
            obtain ⟨y0, y1, y2⟩ := HY1.out.later
            have z0 := later_cell hb2d
            clear hb2d
            refine region_later (by kernel_rfl) (by kernel_rfl) ?_
            repeat (go_big_quiet_step ((go_at_call 73; exact Later.call _ (HVk.out _ (Later.b _)))))
            refine wpQuiet_nil ?_
            rintro _ ⟨U, rfl⟩
            have hb1 := U.b
            have HB3 := Lib.hid (HB0.out.trans ((HB2.out.trans (hb1.mono HB2.out.size)).mono HB0.out.size))
            clear hb1
            go_wp2
            go_ret
            exact ⟨ret_bool HG.out.symm, HB3.out⟩
    · obtain rfl : k = n := by omega
      have HG := Lib.hid (goodMk_yes (last := last) (op := op) (l := conL k g) ⟨HGN.out, by rw [conL_len]; exact h3, by have := hI.out; rwa [conL_len]⟩)
      have HB3 := Lib.hid (HB0.out.trans (hB.out.mono HB0.out.size))
      go_wp2
      go_ret
      exact ⟨ret_bool HG.out.symm, HB3.out⟩
end Go.Proofs.Ytabkjjbhnapgpaa
