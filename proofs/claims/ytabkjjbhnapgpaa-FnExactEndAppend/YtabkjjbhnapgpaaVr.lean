/- Contracts of the program: whether readings rise, whether readers are good; over this seat's translation. -/
import Derived.Test.YtabkjjbhnapgpaaVq
namespace Go.Proofs.Ytabkjjbhnapgpaa
open Go.RowKit Go.Deep Go.ChangeShapes Go.WideShapes Go.ChangeAt

theorem riseR_ids {n : Nat} {g : Nat → Vw} {k : Nat} (hk : k < n) : at0 (ids (conL n g)) k = (g k).id := by rw [ids_at (by rw [conL_len]; exact hk), conL_at hk]; rfl

set_option maxHeartbeats 4000000 in
set_option maxRecDepth 100000 in
theorem isGoodRd (ro : Option Addr) (rc n : Nat) (g : Nat → Vw) (h20 : n ≤ 8) (w : World) (h : VF rC w w.heap.size ro n g) :
    Calls Try.prog 88 #[.agg #[.slice ro n rc, .func (.func 91) #[] #[]]] w fun e w' => e = .returned (.bool (riseR (ids (conL n g)))) ∧ Below w.heap.size w w' := by
  have HB0 := Lib.hid ((Below.refl w.heap.size w).alloc (Nat.le_refl _) (.cells #[.slice ro n rc, .func (.func 91) #[] #[]] 101))
  have HX0 := Lib.hid (Bt.new w (.slice ro n rc) (.func (.func 91) #[] #[]) 101)
  have H := Lib.hid (h.below HB0.out.size HB0.out)
  clear h
  go_enter Try.func88, Try.ntmps88
  go_wp2
  generalize w.alloc (.cells #[.slice ro n rc, .func (.func 91) #[] #[]] 101) = w0 at HB0 HX0 H ⊢
  go_loopw [3] (fun i wr => ∃ k : Nat, 1 ≤ k ∧ (k ≤ n ∨ k = 1) ∧ i = .int .i64 k ∧ Hid (upK (ids (conL n g)) k) ∧ Hid (Below w0.heap.size w0 wr)) (fun i _ => 21 - (intOf i).toNat)
  case atStart => exact ⟨1, by omega, .inr rfl, rfl, Lib.hid (fun t ht => by omega), Lib.hid (Below.refl _ _)⟩
  case round =>
    obtain ⟨k, hk1, hkl, rfl, hI, hB⟩ := hrel
    obtain ⟨x0, x1, _⟩ := (HX0.out.below hB.out).cells
    by_cases hlt : k < n
    · obtain ⟨m, hm⟩ : ∃ m, m + 1 = k := ⟨k - 1, by omega⟩
      have hA := H.out.after hB.out
      obtain ⟨b, off, hao, hbl, c0, c1, c2⟩ := hA.oneR hlt
      obtain ⟨b', off', hao', hbl', d0, d1, d2⟩ := hA.oneR (k := m) (by omega)
      subst hao
      injection hao' with hao'
      injection hao' with e1 e2
      subst e1 e2
      have hw : IntKind.i64.wrap ((k : Int) - 1) = (m : Int) := by rw [show (k : Int) - 1 = (m : Int) by omega]; exact IntWalk.i64_in _ (by omega)
      have hm0 : (0 : Int) ≤ (m : Int) := by omega
      have hml : (m : Int) < (n : Int) := by omega
      have hkl' : (k : Int) < (n : Int) := by omega
      have hk0 : (0 : Int) ≤ (k : Int) := by omega
      have hmt : ((m : Int)).toNat = m := by omega
      have hik := riseR_ids (g := g) hlt
      have him := riseR_ids (g := g) (n := n) (k := m) (by omega)
      clear hkl hA
      by_cases hup : (g m).id < (g k).id
      · have HI : Hid (upK (ids (conL n g)) (k + 1)) := Lib.hid (fun t ht => by
          by_cases e : t = m
          · subst e; rw [hm, hik, him]; exact hup
          · exact hI.out t (by omega))
        have hcc : cmpF (g m).id (g k).id < 0 := cmpF_lt.2 hup
        obtain ⟨c, hcq⟩ : ∃ c, cmpF (g m).id (g k).id = c := ⟨_, rfl⟩
        rw [hcq] at hcc
        have HQ := Lib.hid (fun W => cmpReadI (g m) (g k) c hcq W)
        have hd : decide (0 ≤ c) = false := decide_eq_false (by omega)
        clear hcq hup hm hik him
        generalize g m = u at d0 d1 d2 HQ
        generalize g k = v at c0 c1 c2 HQ
        have y0 := later_cell x0; have y1 := later_cell x1
        have p0 := later_cell c0; have p1 := later_cell c1; have p2 := later_cell c2
        have q0 := later_cell d0; have q1 := later_cell d1; have q2 := later_cell d2
        go_wp2_with fail
        clear x0 x1 c0 c1 c2 d0 d1 d2
        refine region_later (by kernel_rfl) (by kernel_rfl) ?_
        repeat (go_big_quiet_step ((go_at_call 91; exact Later.call _ (HQ.out _))))
        refine wpQuiet_nil ?_
        rintro _ ⟨U, rfl⟩
        have HD := Lib.hid (hB.out.trans (U.b.mono hB.out.size))
        go_wp2
        go_roundw
        case rel => exact ⟨k + 1, by omega, .inl (by omega), by go_num, HI, HD⟩
        case measure => simp [intOf]; omega
      · have HG : Hid (riseR (ids (conL n g)) = false) := Lib.hid (riseR_no (k := m) (by rw [ids_len, conL_len]; omega) (by rw [hm, hik, him]; omega))
        have hcc : ¬ cmpF (g m).id (g k).id < 0 := fun e => hup (cmpF_lt.1 e)
        obtain ⟨c, hcq⟩ : ∃ c, cmpF (g m).id (g k).id = c := ⟨_, rfl⟩
        rw [hcq] at hcc
        have HQ := Lib.hid (fun W => cmpReadI (g m) (g k) c hcq W)
        have hd : decide (0 ≤ c) = true := decide_eq_true (by omega)
        have hc0 : 0 ≤ c := by omega
        clear hcq hup hm hcc hik him
        generalize g m = u at d0 d1 d2 HQ
        generalize g k = v at c0 c1 c2 HQ
        have y0 := later_cell x0; have y1 := later_cell x1
        have p0 := later_cell c0; have p1 := later_cell c1; have p2 := later_cell c2
        have q0 := later_cell d0; have q1 := later_cell d1; have q2 := later_cell d2
        go_wp2_with fail
        clear x0 x1 c0 c1 c2 d0 d1 d2
        refine region_later (by kernel_rfl) (by kernel_rfl) ?_
        repeat (go_big_quiet_step ((go_at_call 91; exact Later.call _ (HQ.out _))))
        refine wpQuiet_nil ?_
        rintro _ ⟨U, rfl⟩
        have HD := Lib.hid (HB0.out.trans ((hB.out.trans (U.b.mono hB.out.size)).mono HB0.out.size))
        go_wp2
        go_ret
        exact ⟨ret_bool HG.out.symm, HD.out⟩
    · have HG : Hid (riseR (ids (conL n g)) = true) := Lib.hid (riseR_yes fun t ht => hI.out t (by rw [ids_len, conL_len] at ht; omega))
      have HD := Lib.hid (HB0.out.trans (hB.out.mono HB0.out.size))
      go_wp2
      go_ret
      exact ⟨ret_bool HG.out.symm, HD.out⟩

/-- What the program asks of readers, where the numbers of the marks are good. -/
def GoodRd (last : Int) (l : List Vc) : Prop := l.length ≤ 8 ∧ (∀ k, k < l.length → GoodV last (vat l k)) ∧ upR (ids l)
open Classical in
noncomputable def goodRd (last : Int) (l : List Vc) : Bool := decide (GoodRd last l)
open Classical in
theorem goodRd_yes {last : Int} {l : List Vc} (h : GoodRd last l) : goodRd last l = true := by unfold goodRd; exact decide_eq_true h
open Classical in
theorem goodRd_no {last : Int} {l : List Vc} (h : ¬ GoodRd last l) : goodRd last l = false := by unfold goodRd; exact decide_eq_false h
open Classical in
theorem goodRd_is {last : Int} {l : List Vc} (h : goodRd last l = true) : GoodRd last l := by unfold goodRd at h; exact of_decide_eq_true h
theorem goodMk_both {last : Int} {op : List Int} {l : List Vc} (h : goodN last op = true) : goodMk last op l = goodRd last l := by
  cases h2 : goodRd last l with
  | true => exact goodMk_yes (GoodMk.of (goodN_is h) (goodRd_is h2).1 (goodRd_is h2).2.1 (goodRd_is h2).2.2)
  | false => exact goodMk_no fun g => by rw [goodRd_yes ⟨g.2.1, fun k hk => (g.2.2 k hk).1, g.rise⟩] at h2; cases h2
theorem goodMk_nums {last : Int} {op : List Int} {l : List Vc} (h : goodN last op = false) : goodMk last op l = false := goodMk_no fun g => by rw [goodN_yes g.1] at h; cases h
theorem goodRd_many {last : Int} {l : List Vc} (h : ¬ l.length ≤ 8) : goodRd last l = false := goodRd_no fun g => h g.1
theorem goodRd_view {last : Int} {l : List Vc} {k : Nat} (hk : k < l.length) (h : ¬ GoodV last (vat l k)) : goodRd last l = false := goodRd_no fun g => h (g.2.1 k hk)
theorem goodRd_rise {last : Int} {l : List Vc} (h1 : l.length ≤ 8) (h2 : ∀ k, k < l.length → GoodV last (vat l k)) : goodRd last l = riseR (ids l) := by
  cases h : riseR (ids l) with
  | true => exact goodRd_yes ⟨h1, h2, riseR_is h⟩
  | false => exact goodRd_no fun g => by rw [riseR_yes g.2.2] at h; cases h

set_option maxHeartbeats 4000000 in
set_option maxRecDepth 100000 in
theorem readersI (last : Int) (oo ro : Option Addr) (on oc rc n : Nat) (g : Nat → Vw) (hl : last ≤ 100000) (hn : n ≤ 1048576) (hm : ∀ k, k < n → (g k).xs.length ≤ 1048576) (w : World) (h : VF rC w w.heap.size ro n g) :
    Calls Try.prog 75 #[.agg #[.int .i64 last, .slice oo on oc, .slice ro n rc]] w fun e w' => e = .returned (.bool (goodRd last (conL n g))) ∧ Below w.heap.size w w' := by
  have HB0 := Lib.hid ((Below.refl w.heap.size w).alloc (Nat.le_refl _) (.cells #[.int .i64 last, .slice oo on oc, .slice ro n rc] 61))
  have HX0 := Lib.hid (B3.new w (.int .i64 last) (.slice oo on oc) (.slice ro n rc) 61)
  have H := Lib.hid (h.below HB0.out.size HB0.out)
  have HM := Lib.hid hm
  have HL := Lib.hid hl
  clear h hm hl
  by_cases h8 : n ≤ 8
  case neg =>
    have HG := Lib.hid (goodRd_many (last := last) (l := conL n g) (by rw [conL_len]; exact h8))
    have hd : decide (8 < (n : Int)) = true := decide_eq_true (by omega)
    go_enter Try.func75, Try.ntmps75
    go_wp2
    go_ret
    exact ⟨ret_bool HG.out.symm, HB0.out⟩
  go_enter Try.func75, Try.ntmps75
  go_wp2
  generalize w.alloc (.cells #[.int .i64 last, .slice oo on oc, .slice ro n rc] 61) = W at HX0 H HB0 ⊢
  go_loopw [12] (fun i wr => ∃ k : Nat, k ≤ n ∧ i = .int .i64 k ∧ Hid (∀ t, t < k → GoodV last (vat (conL n g) t)) ∧ Hid (Below W.heap.size W wr)) (fun i _ => n - (intOf i).toNat)
  case atStart => exact ⟨0, Nat.zero_le _, rfl, Lib.hid (fun t ht => by omega), Lib.hid (Below.refl _ _)⟩
  case round =>
    obtain ⟨k, hk, rfl, hI, hB⟩ := hrel
    have HX1 := Lib.hid (HX0.out.below hB.out)
    obtain ⟨x0, x1, x2⟩ := HX1.out.cells
    by_cases hlt : k < n
    · have hA1 := H.out.after hB.out
      obtain ⟨b, off, hao, hbl, c0, c1, c2⟩ := hA1.oneR hlt
      subst hao
      have hi1 := hA1.2 k hlt
      have hvk := conL_at (g := g) hlt
      have hb2 := (Below.refl wr.heap.size wr).alloc (Nat.le_refl _) (.cells #[.int .i64 (g k).top, .slice (g k).ao (g k).xs.length (g k).cap, .int .i64 (g k).id] 85)
      have HB2 := Lib.hid (hB.out.alloc hB.out.size (.cells #[.int .i64 (g k).top, .slice (g k).ao (g k).xs.length (g k).cap, .int .i64 (g k).id] 85))
      have HY1 := Lib.hid (B3.new wr (.int .i64 (g k).top) (.slice (g k).ao (g k).xs.length (g k).cap) (.int .i64 (g k).id) 85)
      have HX2 := Lib.hid (HX1.out.below hb2)
      have HC := Lib.hid (numsI (g k).top (g k).ao (g k).cap (g k).xs (HM.out k hlt) _ (hi1.below hb2.size hb2))
      have HGv := Lib.hid (fun (h : ¬ GoodV last (g k).con) => goodRd_view (last := last) (l := conL n g) (k := k) (by rw [conL_len]; exact hlt) (by rw [hvk]; exact h))
      have HIv := Lib.hid (fun (h : GoodV last (g k).con) (t : Nat) (ht : t < k + 1) => show GoodV last (vat (conL n g) t) from by
        by_cases e : t = k
        · subst e; rw [hvk]; exact h
        · exact hI.out t (by omega))
      clear hA1 hi1 hvk hb2 hI
      generalize g k = v at c0 c1 c2 HB2 HY1 HX2 HC HGv HIv
      cases hgn : goodN v.top v.xs with
      | false =>
        have HG := Lib.hid (HGv.out fun h => by have := goodN_yes (h.num HL.out); rw [show (v.con).2.1 = v.top from rfl, show (v.con).2.2 = v.xs from rfl, hgn] at this; cases this)
        rw [hgn] at HC
        clear hgn HGv HIv
        go_wp2_with fail
        refine HC.out.mono ?_
        rintro e w1 ⟨rfl, hb1⟩
        have HB3 := Lib.hid (HB0.out.trans ((HB2.out.trans (hb1.mono HB2.out.size)).mono HB0.out.size))
        obtain ⟨x0', x1', x2'⟩ := (HX2.out.below hb1).cells
        obtain ⟨y0', y1', y2'⟩ := (HY1.out.below hb1).cells
        clear hb1
        go_wp2
        go_ret
        exact ⟨ret_bool HG.out.symm, HB3.out⟩
      | true =>
        have HGn := Lib.hid (goodN_is hgn)
        rw [hgn] at HC
        clear hgn
        by_cases hid : v.id < 0
        · have HG := Lib.hid (HGv.out fun h => by have := h.1; change 0 ≤ v.id at this; omega)
          have hd : decide (v.id < 0) = true := decide_eq_true hid
          clear HGv HIv
          go_wp2_with fail
          refine HC.out.mono ?_
          rintro e w1 ⟨rfl, hb1⟩
          have HB3 := Lib.hid (HB0.out.trans ((HB2.out.trans (hb1.mono HB2.out.size)).mono HB0.out.size))
          obtain ⟨x0', x1', x2'⟩ := (HX2.out.below hb1).cells
          obtain ⟨y0', y1', y2'⟩ := (HY1.out.below hb1).cells
          clear hb1
          go_wp2
          go_ret
          exact ⟨ret_bool HG.out.symm, HB3.out⟩
        have hd : decide (v.id < 0) = false := decide_eq_false hid
        by_cases htp : last < v.top
        · have HG := Lib.hid (HGv.out fun h => by have := h.2.1.2; change v.top ≤ last at this; omega)
          have hd2 : decide (last < v.top) = true := decide_eq_true htp
          clear HGv HIv
          go_wp2_with fail
          refine HC.out.mono ?_
          rintro e w1 ⟨rfl, hb1⟩
          have HB3 := Lib.hid (HB0.out.trans ((HB2.out.trans (hb1.mono HB2.out.size)).mono HB0.out.size))
          obtain ⟨x0', x1', x2'⟩ := (HX2.out.below hb1).cells
          obtain ⟨y0', y1', y2'⟩ := (HY1.out.below hb1).cells
          clear hb1
          go_wp2
          go_ret
          exact ⟨ret_bool HG.out.symm, HB3.out⟩
        have hd2 : decide (last < v.top) = false := decide_eq_false htp
        have HI := Lib.hid (HIv.out ⟨by show 0 ≤ v.id; omega, ⟨HGn.out.1.1, by show v.top ≤ last; omega⟩, HGn.out.2.1, HGn.out.2.2⟩)
        clear HGv HIv
        go_wp2_with fail
        refine HC.out.mono ?_
        rintro e w1 ⟨rfl, hb1⟩
        have HB3 := Lib.hid (HB2.out.trans (hb1.mono HB2.out.size))
        obtain ⟨x0', x1', x2'⟩ := (HX2.out.below hb1).cells
        obtain ⟨y0', y1', y2'⟩ := (HY1.out.below hb1).cells
        clear hb1
        go_wp2
        go_roundw
        case rel => exact ⟨k + 1, by omega, by go_num, HI, HB3⟩
        case measure => simp [intOf]; omega
    · obtain rfl : k = n := by omega
      have HG := Lib.hid (goodRd_rise (last := last) (l := conL k g) (by rw [conL_len]; exact h8) (fun t ht => hI.out t (by rwa [conL_len] at ht)))
      have HC := Lib.hid (fun W hW => isGoodRd ro rc k g h8 W hW)
      have HA := Lib.hid (H.out.after hB.out)
      have HB1 := Lib.hid (HB0.out.trans (hB.out.mono HB0.out.size))
      clear hI
      go_wp2_with fail
      refine (byIdI last oo ro on oc k rc _).mono ?_
      rintro e w1 ⟨rfl, hb1⟩
      have HA1 := Lib.hid (HA.out.after hb1)
      have HB2 := Lib.hid (HB1.out.trans (hb1.mono HB1.out.size))
      clear hb1
      go_wp2_with fail
      refine (HC.out _ HA1.out).mono ?_
      rintro e w2 ⟨rfl, hb2⟩
      have HB3 := Lib.hid (HB2.out.trans (hb2.mono HB2.out.size))
      clear hb2
      go_wp2
      go_ret
      exact ⟨ret_bool HG.out.symm, HB3.out⟩
end Go.Proofs.Ytabkjjbhnapgpaa
