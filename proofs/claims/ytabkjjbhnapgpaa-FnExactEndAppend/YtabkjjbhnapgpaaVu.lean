/- Contracts of the copies of views that the exact laws make; over this seat's translation. -/
import Derived.Test.YtabkjjbhnapgpaaVt
namespace Go.Proofs.Ytabkjjbhnapgpaa
open Go.RowKit Go.Deep Go.ChangeShapes Go.WideShapes Go.ChangeAt

theorem RF.free {w : World} {g : Nat} {t : TypeId} {N n : Nat} {f : Nat → Int} (h : RF w g t N n f) (i : Nat) : w.frozen? ⟨blk (some ⟨g, 0, none⟩), i, none⟩ = false := h.frozen i

set_option maxHeartbeats 2000000 in
set_option maxRecDepth 100000 in
theorem toV (v : Vw) (hn : v.xs.length ≤ 1048576) (w : World) (h : IRow w w.heap.size v.ao v.xs) :
    Calls Try.prog 33 #[.agg #[.int .i64 v.id, .int .i64 v.top, .slice v.ao v.xs.length v.cap]] w fun e w' => ∃ g, e = .returned (.agg #[.int .i64 v.id, .int .i64 v.top, .slice (some ⟨g, 0, none⟩) v.xs.length v.xs.length]) ∧ w.heap.size ≤ g ∧ RF w' g 3 v.xs.length v.xs.length (at0 v.xs) ∧ Below w.heap.size w w' := by
  have hb0 := (((Below.refl w.heap.size w).alloc (Nat.le_refl _) (.cells #[.int .i64 v.id, .int .i64 v.top, .slice v.ao v.xs.length v.cap] 48)).alloc (by simp) (.cells #[.int .i64 0, .int .i64 0, .slice none 0 0] 43)).alloc (by simp; omega) (.cells #[.int .i64 v.id, .int .i64 v.top, .slice none 0 0] 43)
  have HX1 := Lib.hid ((B3.new (w.alloc (.cells #[.int .i64 v.id, .int .i64 v.top, .slice v.ao v.xs.length v.cap] 48)) (.int .i64 0) (.int .i64 0) (.slice none 0 0) 43).alloc (.cells #[.int .i64 v.id, .int .i64 v.top, .slice none 0 0] 43))
  have HX2 := Lib.hid (B3.new ((w.alloc (.cells #[.int .i64 v.id, .int .i64 v.top, .slice v.ao v.xs.length v.cap] 48)).alloc (.cells #[.int .i64 0, .int .i64 0, .slice none 0 0] 43)) (.int .i64 v.id) (.int .i64 v.top) (.slice none 0 0) 43)
  have HB0 := Lib.hid hb0
  have HT := Lib.hid (toInts v.ao v.cap v.xs hn _ (h.below hb0.size hb0))
  have hsz : (((w.alloc (.cells #[.int .i64 v.id, .int .i64 v.top, .slice v.ao v.xs.length v.cap] 48)).alloc (.cells #[.int .i64 0, .int .i64 0, .slice none 0 0] 43)).alloc (.cells #[.int .i64 v.id, .int .i64 v.top, .slice none 0 0] 43)).heap.size = w.heap.size + 1 + 1 + 1 := by simp
  rw [World.size_alloc] at HX1
  rw [World.size_alloc, World.size_alloc] at HX2
  have HSz := Lib.hid hsz
  clear h hb0 hn hsz
  go_enter Try.func33, Try.ntmps33
  go_wp2_with fail
  obtain ⟨W, hW⟩ : ∃ W, W = ((w.alloc (.cells #[.int .i64 v.id, .int .i64 v.top, .slice v.ao v.xs.length v.cap] 48)).alloc (.cells #[.int .i64 0, .int .i64 0, .slice none 0 0] 43)).alloc (.cells #[.int .i64 v.id, .int .i64 v.top, .slice none 0 0] 43) := ⟨_, rfl⟩
  rw [← hW] at HX1 HX2 HB0 HT HSz ⊢
  clear hW
  refine HT.out.mono ?_
  rintro e w1 ⟨rfl, hR, hb1⟩
  have h1 := HX1.out.below hb1
  have h2 := HX2.out.below hb1
  obtain ⟨x0, x1, x2⟩ := h1.cells
  obtain ⟨y0, y1, y2⟩ := h2.cells
  have f0 := h1.free 0; have f1 := h1.free 1; have f2 := h1.free 2; have g2 := h2.free 2
  have hs := HSz.out
  have HR := Lib.hid hR; have HB1 := Lib.hid (HB0.out.trans (hb1.mono HB0.out.size))
  have hge : w.heap.size ≤ W.heap.size := by omega
  have n1 : W.heap.size ≠ w.heap.size + 1 := by omega
  have n2 : W.heap.size ≠ w.heap.size + 1 + 1 := by omega
  generalize W.heap.size = s at HR hge n1 n2 ⊢
  clear h1 h2 hs HSz HT HX1 HX2 HB0 hR hb1
  go_wp2
  exact bodyPost_ret (v := .agg #[.int .i64 v.id, .int .i64 v.top, .slice (some ⟨s, 0, none⟩) v.xs.length v.xs.length]) (by simp [results, Try.results33, go_sem, x0, x1, x2]) rfl ⟨s, rfl, hge, (((HR.out.other _ n2).other _ n1).other _ n1).other _ n1, (((HB1.out.setCell (by simp; omega) _).setCell (by simp) _).setCell (by simp) _).setCell (by simp) _⟩

/-- The first k of n views have been laid into a row of the call's own, which begins block g0. -/
def LaidV (base : Nat) (t : TypeId) (g0 n : Nat) (g : Nat → Vw) (k : Nat) (wr : World) : Prop :=
  ∃ cur, wr.ownsRow base t 3 (.slice (some ⟨g0, 0, none⟩) n n) n cur ∧ ∀ i, i < k → ∀ j v, (vC (g i))[j]? = some v → cur[i * 3 + j]? = some v
theorem LaidV.start {base : Nat} {t : TypeId} {g0 n : Nat} (g : Nat → Vw) {wr : World} {xs : List Value} (h : wr.ownsRow base t 3 (.slice (some ⟨g0, 0, none⟩) n n) n xs) : LaidV base t g0 n g 0 wr := ⟨xs, h, fun i hi => absurd hi (by omega)⟩
theorem LaidV.at {base : Nat} {t : TypeId} {g0 n : Nat} {g : Nat → Vw} {k : Nat} {wr : World} (h : LaidV base t g0 n g k wr) (hk : k < n) (j : Nat) (hj : j < 3) :
    (∃ u, wr.cell? ⟨g0, k * 3 + j, none⟩ = some u) ∧ wr.frozen? ⟨g0, k * 3 + j, none⟩ = false := by
  obtain ⟨cur, ho, _⟩ := h
  have hl := ho.1
  have hlt : k * 3 + j < n * 3 := by omega
  exact ⟨⟨cur[k * 3 + j]'(by omega), by rw [ho.cellAt _ hlt, List.getElem?_eq_getElem]⟩, ho.frozenAt _⟩
theorem LaidV.below {base : Nat} {t : TypeId} {g0 n : Nat} {g : Nat → Vw} {k : Nat} {wr w1 : World} (h : LaidV base t g0 n g k wr) (hb : Below wr.heap.size wr w1) : LaidV base t g0 n g k w1 := by
  obtain ⟨cur, ho, ht⟩ := h
  exact ⟨cur, own_below ho hb, ht⟩
theorem LaidV.congr {base : Nat} {t : TypeId} {g0 n : Nat} {g g' : Nat → Vw} {k : Nat} {wr : World} (h : LaidV base t g0 n g k wr) (he : ∀ i, i < k → g i = g' i) : LaidV base t g0 n g' k wr := by
  obtain ⟨cur, ho, ht⟩ := h
  exact ⟨cur, ho, fun i hi j v hv => ht i hi j v (by rw [he i hi]; exact hv)⟩
theorem LaidV.step {base : Nat} {t : TypeId} {g0 n : Nat} {g : Nat → Vw} {k : Nat} {wr : World} {x0 x1 x2 : Value} (h : LaidV base t g0 n g k wr) (hn : k < n) (hx : vC (g k) = [x0, x1, x2]) :
    LaidV base t g0 n g (k + 1) (((wr.setCell ⟨g0, k * 3, none⟩ x0).setCell ⟨g0, k * 3 + 1, none⟩ x1).setCell ⟨g0, k * 3 + 2, none⟩ x2) := by
  obtain ⟨cur, ho, ht⟩ := h
  have hl := ho.1
  have a0 := ho.stored (k * 3) x0
  have a1 := a0.1.stored (k * 3 + 1) x1
  have a2 := a1.1.stored (k * 3 + 2) x2
  refine ⟨_, a2.1, fun i hi j v hv => ?_⟩
  have hj : j < 3 := by have h3 := (List.getElem?_eq_some_iff.1 hv).1; simpa [vC] using h3
  by_cases e : i = k
  · subst e
    rw [hx] at hv
    match j, hj, hv with
    | 0, _, hv => injection hv with hv; subst hv; rw [List.getElem?_set_ne (by omega), List.getElem?_set_ne (by omega), Nat.add_zero, List.getElem?_set_self (by omega)]
    | 1, _, hv => injection hv with hv; subst hv; rw [List.getElem?_set_ne (by omega), List.getElem?_set_self (by simp; omega)]
    | 2, _, hv => injection hv with hv; subst hv; rw [List.getElem?_set_self (by simp; omega)]
  · rw [List.getElem?_set_ne (by omega), List.getElem?_set_ne (by omega), List.getElem?_set_ne (by omega)]
    exact ht i (by omega) j v hv
/-- The lists of the first k: each in a block of its own, all behind block g0. -/
def HidesV (g0 : Nat) (g : Nat → Vw) (k : Nat) (wr : World) : Prop :=
  (∀ i, i < k → IRow wr wr.heap.size (g i).ao (g i).xs ∧ (0 < (g i).xs.length → g0 < blk (g i).ao ∧ ∀ j, wr.frozen? ⟨blk (g i).ao, j, none⟩ = false)) ∧
  ∀ i t, i < k → t < k → i ≠ t → 0 < (g i).xs.length → 0 < (g t).xs.length → blk (g i).ao ≠ blk (g t).ao
theorem HidesV.only {g0 : Nat} {g : Nat → Vw} {k : Nat} {wr w1 : World} (h : HidesV g0 g k wr) (ho : Only (fun i => i = g0) wr w1) : HidesV g0 g k w1 :=
  ⟨fun i hi => ⟨(h.1 i hi).1.only ho fun hp e => by have := ((h.1 i hi).2 hp).1; omega, fun hp => ⟨((h.1 i hi).2 hp).1, fun j => (ho.frozen _ ((h.1 i hi).1.lt hp)).trans (((h.1 i hi).2 hp).2 j)⟩⟩, h.2⟩
theorem HidesV.more {g0 : Nat} {g : Nat → Vw} {k : Nat} {wr w1 : World} {v : Vw} (h : HidesV g0 g k wr) (hb : Below wr.heap.size wr w1) (hg : g0 < wr.heap.size) (hi : IRow w1 w1.heap.size v.ao v.xs)
    (hn : 0 < v.xs.length → wr.heap.size ≤ blk v.ao ∧ ∀ j, w1.frozen? ⟨blk v.ao, j, none⟩ = false) : HidesV g0 (fun i => if i = k then v else g i) (k + 1) w1 := by
  have h1 := h.only (Only.of_below _ hb)
  refine ⟨fun i hik => ?_, fun i t hik htk hne h2 h3 => ?_⟩
  · by_cases e : i = k
    · simp only [e, if_true]; exact ⟨hi, fun hp => ⟨by have := (hn hp).1; omega, (hn hp).2⟩⟩
    · simp only [e, if_false]; exact h1.1 i (by omega)
  · by_cases e : i = k
    · by_cases e2 : t = k
      · omega
      · simp only [e, e2, if_true, if_false] at h2 h3 ⊢
        have a := (hn h2).1
        have b := (h.1 t (by omega)).1.lt h3
        omega
    · by_cases e2 : t = k
      · simp only [e, e2, if_true, if_false] at h2 h3 ⊢
        have a := (hn h3).1
        have b := (h.1 i (by omega)).1.lt h2
        omega
      · simp only [e, e2, if_false] at h2 h3 ⊢
        exact h.2 i t (by omega) (by omega) hne h2 h3
theorem HidesV.set3 {g0 : Nat} {g : Nat → Vw} {k : Nat} {w : World} (h : HidesV g0 g k w) (a b c : Nat) (x y z : Value) : HidesV g0 g k (((w.setCell ⟨g0, a, none⟩ x).setCell ⟨g0, b, none⟩ y).setCell ⟨g0, c, none⟩ z) :=
  h.only (((Only.set (S := fun i => i = g0) w x rfl).trans (Only.set _ y rfl)).trans (Only.set _ z rfl))
/-- What was laid is a list of views, and all of it the call's own. -/
theorem laid_views {base : Nat} {t : TypeId} {g0 n : Nat} {g : Nat → Vw} {wr : World} (h : LaidV base t g0 n g n wr) (hh : HidesV g0 g n wr) (hg : base ≤ g0) : VF vC wr wr.heap.size (some ⟨g0, 0, none⟩) n g ∧ VD wr base (some ⟨g0, 0, none⟩) n g := by
  obtain ⟨cur, ho, ht⟩ := h
  have hl := ho.1
  refine ⟨⟨fun hp => ⟨g0, 0, rfl, (ho.lt g0 rfl).2, fun k hk j v hv => ?_⟩, fun k hk => (hh.1 k hk).1⟩, fun hp => ⟨hg, fun i => ho.frozenAt i⟩, fun k hk hp => ⟨by have := ((hh.1 k hk).2 hp).1; omega, by have := ((hh.1 k hk).2 hp).1; show blk (g k).ao ≠ g0; omega, ((hh.1 k hk).2 hp).2⟩, hh.2⟩
  have hj : j < 3 := by have h3 := (List.getElem?_eq_some_iff.1 hv).1; simpa [vC] using h3
  have h1 := ht k hk j v hv
  have h2 := ho.cellAt (k * 3 + j) (by omega)
  rw [show 0 + k * 3 + j = k * 3 + j by omega]
  exact h2.trans h1

theorem Try.infoV : (Try.prog.info? 43).map (fun i => (i.zero, i.size, i.bytes)) = some (some (.agg #[.int .i64 0, .int .i64 0, .slice none 0 0]), 3, 40) := by kernel_rfl

/-- What a copy of views comes to: the same views, all of it the call's own. -/
def ViewsEnd (n : Nat) (g : Nat → Vw) (w : World) (e : Ending) (w' : World) : Prop :=
  ∃ (bo : Option Addr) (c : Nat) (g' : Nat → Vw), e = .returned (.slice bo n c) ∧ (∀ k, k < n → (g' k).con = (g k).con) ∧ VF vC w' w'.heap.size bo n g' ∧ VD w' w.heap.size bo n g' ∧ Below w.heap.size w w'

set_option maxHeartbeats 4000000 in
set_option maxRecDepth 100000 in
theorem toVS (ao : Option Addr) (cap n : Nat) (g : Nat → Vw) (hn : n ≤ 1048576) (hm : ∀ k, k < n → (g k).xs.length ≤ 1048576) (w : World) (h : VF vC w w.heap.size ao n g) :
    Calls Try.prog 41 #[.slice ao n cap] w (ViewsEnd n g w) := by
  have H := Lib.hid h
  have HM := Lib.hid hm
  clear h hm
  obtain ⟨i0, hi0, hz0, hz1, hz2⟩ := info_parts Try.infoV
  go_enter Try.func41, Try.ntmps41
  go_wp2_with (refine wpList_make_full _ rfl (.tmp 6) (.tmp 6) 28 rfl w.heap.size 43 i0 _ 3 Try.underlying28 hi0 hz0 hz1 _ _ _ _ n rfl rfl rfl rfl (by rw [hz2]; omega) (by unfold maxLen; omega) (Nat.le_refl _) ?_; intro w1 hown1 hg1; have HO := Lib.hid hown1; have HG := Lib.hid hg1; clear hown1 hg1)
  go_loopw [4] (fun i wr => ∃ k : Nat, k ≤ n ∧ i = .int .i64 k ∧ Hid (∃ g' : Nat → Vw, (∀ i, i < k → (g' i).con = (g i).con) ∧ LaidV w.heap.size 43 w.heap.size n g' k wr ∧ HidesV w.heap.size g' k wr) ∧ Hid (w.heap.size < wr.heap.size) ∧ Hid (Below w.heap.size w wr)) (fun i _ => n - (intOf i).toNat)
  case atStart => exact ⟨0, Nat.zero_le _, rfl, Lib.hid ⟨g, fun i hi => absurd hi (by omega), LaidV.start g HO.out, fun i hi => absurd hi (by omega), fun i t hi => absurd hi (by omega)⟩, Lib.hid (HO.out.lt _ rfl).2, Lib.hid ((Below.refl _ _).grown HG.out (Nat.le_refl _) (fun _ h => by cases h))⟩
  case round =>
    obtain ⟨k, hk, rfl, hI, hS, hB⟩ := hrel
    by_cases hlt : k < n
    · obtain ⟨b, off, hao, hbl, c0, c1, c2⟩ := (H.out.after hB.out).oneV hlt
      subst hao
      have HC := Lib.hid (fun W hW => toV (g k) (HM.out k hlt) W hW)
      have HI := Lib.hid ((H.out.2 k hlt).below hB.out.size hB.out)
      obtain ⟨g', hcon, hL, hH⟩ := hI.out
      have HSt := Lib.hid (fun (w2 : World) (s : Nat) (hs : wr.heap.size ≤ s) (hR : RF w2 s 3 (g k).xs.length (g k).xs.length (at0 (g k).xs)) (hb2 : Below wr.heap.size wr w2) =>
        show ∃ g'' : Nat → Vw, (∀ i, i < k + 1 → (g'' i).con = (g i).con) ∧ LaidV w.heap.size 43 w.heap.size n g'' k w2 ∧ HidesV w.heap.size g'' (k + 1) w2 ∧ vC (g'' k) = [.int .i64 (g k).id, .int .i64 (g k).top, .slice (some ⟨s, 0, none⟩) (g k).xs.length (g k).xs.length] from
        ⟨fun i => if i = k then ⟨(g k).id, (g k).top, some ⟨s, 0, none⟩, (g k).xs.length, (g k).xs⟩ else g' i, fun i hi => by
          by_cases e : i = k
          · simp only [e, if_true]; rfl
          · simp only [e, if_false]; exact hcon i (by omega), (hL.congr fun i hi => by simp only [show i ≠ k by omega, if_false]).below hb2, hH.more hb2 hS.out (hR.irow (HI.out.1)) (fun _ => ⟨hs, hR.frozen⟩), by simp only [if_true]; rfl⟩)
      have HSz := Lib.hid hS.out
      clear hcon hL hH hI
      generalize g k = v at c0 c1 c2 HC HI HSt
      go_wp2_with fail
      refine (HC.out _ HI.out).mono ?_
      rintro e w2 ⟨s, rfl, hs, hR, hb2⟩
      obtain ⟨g'', hcon, hL, hH, hx⟩ := HSt.out w2 s hs hR hb2
      have HS2 := Lib.hid (Nat.lt_of_lt_of_le HSz.out hb2.size)
      have HB2 := Lib.hid (hB.out.trans (hb2.mono hB.out.size))
      have HE := Lib.hid (show ∃ g' : Nat → Vw, (∀ i, i < k + 1 → (g' i).con = (g i).con) ∧ LaidV w.heap.size 43 w.heap.size n g' (k + 1) _ ∧ HidesV w.heap.size g' (k + 1) _ from
        ⟨g'', hcon, hL.step hlt hx, hH.set3 (k * 3) (k * 3 + 1) (k * 3 + 2) (.int .i64 v.id) (.int .i64 v.top) (.slice (some ⟨s, 0, none⟩) v.xs.length v.xs.length)⟩)
      obtain ⟨⟨u0, t0⟩, f0⟩ := hL.at hlt 0 (by decide)
      obtain ⟨⟨u1, t1⟩, f1⟩ := hL.at hlt 1 (by decide)
      obtain ⟨⟨u2, t2⟩, f2⟩ := hL.at hlt 2 (by decide)
      rw [Nat.add_zero] at t0 f0
      clear hs hR hb2 hcon hL hH hx HSt HC HI
      go_wp2
      go_roundw
      case rel => exact ⟨k + 1, by omega, by go_num, HE, Lib.hid (by have := HS2.out; simpa [World.setCell] using this), ((HB2.out.setCell (Nat.le_refl _) _).setCell (Nat.le_refl _) _).setCell (Nat.le_refl _) _⟩
      case measure => simp [intOf]; omega
    · obtain rfl : k = n := by omega
      have HE : Hid (ViewsEnd k g w (.returned (.slice (some ⟨w.heap.size, 0, none⟩) k k)) wr) := Lib.hid (by
        obtain ⟨g', hcon, hL, hH⟩ := hI.out
        have h2 := laid_views hL hH (Nat.le_refl _)
        exact ⟨_, _, g', rfl, hcon, h2.1, h2.2, hB.out⟩)
      go_wp2
      go_ret
      exact HE.out
end Go.Proofs.Ytabkjjbhnapgpaa
