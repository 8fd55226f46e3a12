/- Contracts of GoodMarks and LowMark, in the model and in the program; over this seat's translation. -/
import Derived.Test.YtabkjjbhnapgpaaKa
namespace Go.Proofs.Ytabkjjbhnapgpaa
open Go.RowKit Go.Deep Go.ChangeShapes Go.WideShapes Go.ChangeAt

theorem goodMkM (last : Int) (oo : Option Addr) (oc : Nat) (op : List Int) (ro : Option Addr) (rc n : Nat) (g : Nat → Vw) (hp : op.length ≤ 1048576) (hn : n ≤ 1048576) (hm : ∀ k, k < n → (g k).xs.length ≤ 1048576) (w : World) (h : MH w w.heap.size oo op ro n g) :
    Calls Try.prog 12 #[.agg #[.int .i64 last, .slice oo op.length oc, .slice ro n rc]] w fun e w' => e = .returned (.bool (goodMk last op (conL n g))) ∧ Below w.heap.size w w' := by
  have HB0 := Lib.hid ((Below.refl w.heap.size w).alloc (Nat.le_refl _) (.cells #[.int .i64 last, .slice oo op.length oc, .slice ro n rc] 30))
  have HC := Lib.hid (goodL last oo oc op ro rc n g hp hn hm _ (h.below HB0.out.size HB0.out))
  clear h hm
  generalize goodMk last op (conL n g) = q at HC ⊢
  go_enter Try.func12, Try.ntmps12
  go_wp2_with fail
  refine HC.out.mono ?_
  rintro e w1 ⟨rfl, hb1⟩
  have HB1 := Lib.hid (HB0.out.trans (hb1.mono HB0.out.size))
  clear hb1
  go_wp2
  go_ret
  exact ⟨rfl, HB1.out⟩

theorem goodMkI (last : Int) (oo : Option Addr) (oc : Nat) (op : List Int) (ro : Option Addr) (rc n : Nat) (g : Nat → Vw) (hp : op.length ≤ 1048576) (hn : n ≤ 1048576) (hm : ∀ k, k < n → (g k).xs.length ≤ 1048576) (w : World) (h : MH w w.heap.size oo op ro n g) :
    Calls Try.prog 14 #[.agg #[.int .i64 last, .slice oo op.length oc, .slice ro n rc]] w fun e w' => e = .returned (.bool (goodMk last op (conL n g))) ∧ Below w.heap.size w w' := by
  have HB0 := Lib.hid ((Below.refl w.heap.size w).alloc (Nat.le_refl _) (.cells #[.int .i64 last, .slice oo op.length oc, .slice ro n rc] 30))
  have HC := Lib.hid (ledgerI last oo oc op ro rc n g hp hn hm _ (h.below HB0.out.size HB0.out))
  clear h hm
  generalize goodMk last op (conL n g) = q at HC ⊢
  go_enter Try.func14, Try.ntmps14
  go_wp2_with fail
  refine HC.out.mono ?_
  rintro e w1 ⟨lo, lc, rfl, _, hb1⟩
  have HB1 := Lib.hid (HB0.out.trans (hb1.mono HB0.out.size))
  clear hb1
  go_wp2
  go_ret
  exact ⟨rfl, HB1.out.alloc HB1.out.size _⟩

theorem firstI (last : Int) (ao : Option Addr) (cap : Nat) (l : List Int) (hl : last ≤ 100000) (hl0 : 0 ≤ last) (hn : l.length ≤ 1048576) (w : World) (h : IRow w w.heap.size ao l) :
    Calls Try.prog 58 #[.agg #[.int .i64 last, .slice ao l.length cap]] w fun e w' => e = .returned (.int .i64 (fm last l)) ∧ Below w.heap.size w w' := by
  have HB0 := Lib.hid ((Below.refl w.heap.size w).alloc (Nat.le_refl _) (.cells #[.int .i64 last, .slice ao l.length cap] 58))
  have H := h.below HB0.out.size HB0.out
  by_cases hp : 0 < l.length
  · obtain ⟨b, off, hao, hbl, hc⟩ := H.2 hp
    subst hao
    have c1 := hc 0 hp
    rw [← at0_get hp, Nat.add_zero] at c1
    have HF := Lib.hid (fm_cons (last := last) hp)
    have hd : decide (0 < (l.length : Int)) = true := decide_eq_true (by omega)
    have hne : l ≠ [] := fun e => by rw [e] at hp; simp at hp
    clear hc h H
    rw [HF.out]
    generalize at0 l 0 = y at c1 ⊢
    go_enter Try.func58, Try.ntmps58
    go_wp2
    go_ret
    exact ⟨rfl, HB0.out⟩
  · obtain rfl : l = [] := List.eq_nil_of_length_eq_zero (by omega)
    clear h H
    rw [fm_nil]
    go_enter Try.func58, Try.ntmps58
    go_wp2
    go_ret
    exact ⟨rfl, HB0.out⟩

/-- What LowMark answers. -/
noncomputable def lowV (last : Int) (op : List Int) (cs : List Vc) : Int := if goodMk last op cs = true then fm last op - 1 else 0
theorem lowV_no {last : Int} {op : List Int} {cs : List Vc} (h : goodMk last op cs = false) : lowV last op cs = 0 := by unfold lowV; rw [if_neg (by rw [h]; decide)]
theorem lowV_yes {last : Int} {op : List Int} {cs : List Vc} (h : goodMk last op cs = true) : lowV last op cs = fm last op - 1 := by unfold lowV; rw [if_pos h]

theorem low9M (last : Int) (oo : Option Addr) (oc : Nat) (op : List Int) (ro : Option Addr) (rc n : Nat) (hg : GoodN last op) (w : World) (h : IRow w w.heap.size oo op) :
    Calls Try.prog 57 #[.agg #[.int .i64 last, .slice oo op.length oc, .slice ro n rc]] w fun e w' => e = .returned (.int .i64 (fm last op - 1)) ∧ Below w.heap.size w w' := by
  have HB0 := Lib.hid ((Below.refl w.heap.size w).alloc (Nat.le_refl _) (.cells #[.int .i64 last, .slice oo op.length oc, .slice ro n rc] 30))
  have H := h.below HB0.out.size HB0.out
  have hl8 := hg.2.1
  by_cases hp : 0 < op.length
  · obtain ⟨b, off, hao, hbl, hc⟩ := H.2 hp
    subst hao
    have c1 := hc 0 hp
    rw [← at0_get hp, Nat.add_zero] at c1
    have HF := Lib.hid (fm_cons (last := last) hp)
    have hy := hg.2.2 0 hp
    have hl1 := hg.1.2
    have hd : decide (0 < (op.length : Int)) = true := decide_eq_true (by omega)
    have hne : op ≠ [] := fun e => by rw [e] at hp; simp at hp
    clear hc h H hg
    rw [HF.out]
    have hy1 := hy.1; have hy2 := hy.2.1
    clear hy
    generalize at0 op 0 = y at c1 hy1 hy2 ⊢
    go_enter Try.func57, Try.ntmps57
    go_wp2
    go_ret
    exact ⟨rfl, HB0.out⟩
  · obtain rfl : op = [] := List.eq_nil_of_length_eq_zero (by omega)
    clear h H hg
    rw [fm_nil, Int.add_sub_cancel]
    go_enter Try.func57, Try.ntmps57
    go_wp2
    go_ret
    exact ⟨rfl, HB0.out⟩

set_option maxRecDepth 100000 in
theorem lowM (last : Int) (oo : Option Addr) (oc : Nat) (op : List Int) (ro : Option Addr) (rc n : Nat) (g : Nat → Vw) (hp : op.length ≤ 1048576) (hn : n ≤ 1048576) (hm : ∀ k, k < n → (g k).xs.length ≤ 1048576) (w : World) (h : MH w w.heap.size oo op ro n g) :
    Calls Try.prog 22 #[.agg #[.int .i64 last, .slice oo op.length oc, .slice ro n rc]] w fun e w' => e = .returned (.tuple #[.int .i64 (lowV last op (conL n g)), .bool (goodMk last op (conL n g))]) ∧ Below w.heap.size w w' := by
  have HB0 := Lib.hid ((Below.refl w.heap.size w).alloc (Nat.le_refl _) (.cells #[.int .i64 last, .slice oo op.length oc, .slice ro n rc] 30))
  have HX0 := Lib.hid (B3.new w (.int .i64 last) (.slice oo op.length oc) (.slice ro n rc) 30)
  have H0 := Lib.hid (h.below HB0.out.size HB0.out)
  have HC := Lib.hid (goodL last oo oc op ro rc n g hp hn hm _ H0.out)
  clear h hm
  cases hgm : goodMk last op (conL n g) with
  | false =>
    rw [lowV_no hgm]
    rw [hgm] at HC
    clear hgm
    go_enter Try.func22, Try.ntmps22
    go_wp2_with fail
    refine HC.out.mono ?_
    rintro e w1 ⟨rfl, hb1⟩
    have HB1 := Lib.hid (HB0.out.trans (hb1.mono HB0.out.size))
    clear hb1
    go_wp2
    go_ret2
    exact ⟨rfl, HB1.out⟩
  | true =>
    have HD := Lib.hid (fun W hW => low9M last oo oc op ro rc n (goodMk_is hgm).1 W hW)
    rw [lowV_yes hgm]
    rw [hgm] at HC
    clear hgm
    generalize fm last op - 1 = y at HD ⊢
    go_enter Try.func22, Try.ntmps22
    go_wp2_with fail
    refine HC.out.mono ?_
    rintro e w1 ⟨rfl, hb1⟩
    have HB1 := Lib.hid (HB0.out.trans (hb1.mono HB0.out.size))
    obtain ⟨x0, x1, x2⟩ := (HX0.out.below hb1).cells
    have H1 := Lib.hid (H0.out.1.below hb1.size hb1)
    clear hb1
    go_wp2_with fail
    refine (HD.out _ H1.out).mono ?_
    rintro e w2 ⟨rfl, hb2⟩
    have HB2 := Lib.hid (HB1.out.trans (hb2.mono HB1.out.size))
    clear hb2
    go_wp2
    go_ret2
    exact ⟨rfl, HB2.out⟩

set_option maxRecDepth 100000 in
theorem lowI (last : Int) (oo : Option Addr) (oc : Nat) (op : List Int) (ro : Option Addr) (rc n : Nat) (g : Nat → Vw) (hp : op.length ≤ 1048576) (hn : n ≤ 1048576) (hm : ∀ k, k < n → (g k).xs.length ≤ 1048576) (w : World) (h : MH w w.heap.size oo op ro n g) :
    Calls Try.prog 23 #[.agg #[.int .i64 last, .slice oo op.length oc, .slice ro n rc]] w fun e w' => e = .returned (.tuple #[.int .i64 (lowV last op (conL n g)), .bool (goodMk last op (conL n g))]) ∧ Below w.heap.size w w' := by
  have HB0 := Lib.hid ((Below.refl w.heap.size w).alloc (Nat.le_refl _) (.cells #[.int .i64 last, .slice oo op.length oc, .slice ro n rc] 30))
  have H0 := Lib.hid (h.below HB0.out.size HB0.out)
  have HC := Lib.hid (ledgerI last oo oc op ro rc n g hp hn hm _ H0.out)
  clear h hm
  cases hgm : goodMk last op (conL n g) with
  | false =>
    rw [lowV_no hgm]
    rw [hgm] at HC
    clear hgm
    go_enter Try.func23, Try.ntmps23
    go_wp2_with fail
    refine HC.out.mono ?_
    rintro e w1 ⟨lo, lc, rfl, _, hb1⟩
    have HB1 := Lib.hid (HB0.out.trans (hb1.mono HB0.out.size))
    clear hb1
    go_wp2
    go_ret2
    exact ⟨rfl, HB1.out.alloc HB1.out.size _⟩
  | true =>
    have hg1 := (goodMk_is hgm).1
    have HD := Lib.hid (fun W hW => firstI last oo oc op hg1.1.2 hg1.1.1 hp W hW)
    have hf := fm_in hg1
    have hl2 := hg1.1.2
    rw [lowV_yes hgm]
    rw [hgm] at HC
    clear hgm hg1
    generalize fm last op = y at HD hf ⊢
    have hf1 := hf.1; have hf2 := hf.2
    clear hf
    go_enter Try.func23, Try.ntmps23
    go_wp2_with fail
    refine HC.out.mono ?_
    rintro e w1 ⟨lo, lc, rfl, _, hb1⟩
    have HB1 := Lib.hid ((HB0.out.trans (hb1.mono HB0.out.size)).alloc (Nat.le_trans HB0.out.size hb1.size) (.cells #[.int .i64 last, .slice oo op.length oc, .slice lo n lc] 61))
    have hba := (Below.refl w1.heap.size w1).alloc (Nat.le_refl _) (.cells #[.int .i64 last, .slice oo op.length oc, .slice lo n lc] 61)
    have H1 := Lib.hid ((H0.out.1.below hb1.size hb1).below hba.size hba)
    clear hb1 hba
    go_wp2_with fail
    refine (HD.out _ H1.out).mono ?_
    rintro e w2 ⟨rfl, hb2⟩
    have HB2 := Lib.hid (HB1.out.trans (hb2.mono HB1.out.size))
    clear hb2
    go_wp2
    go_ret2
    exact ⟨rfl, HB2.out⟩
end Go.Proofs.Ytabkjjbhnapgpaa
