/- Contracts of BeginAppend, in the program; over this seat's translation. -/
import Derived.Test.YtabkjjbhnapgpaaBv
import Derived.Test.YtabkjjbhnapgpaaVk
import Derived.Test.YtabkjjbhnapgpaaMi9
import Derived.Deep.RegionLaw
namespace Go.Proofs.Ytabkjjbhnapgpaa
open Go.RowKit Go.Deep Go.ChangeShapes Go.WideShapes Go.ChangeAt

theorem irow_one (w : World) (x : Int) (hx : In64 x) (t : TypeId) : IRow (w.alloc (.cells #[.int .i64 x] t)) (w.heap.size + 1) (some ⟨w.heap.size, 0, none⟩) [x] :=
  ⟨fun y hy => by rw [List.mem_singleton] at hy; subst hy; exact hx, fun _ => ⟨w.heap.size, 0, rfl, by omega, fun i hi => by
    have e : i = 0 := by simp at hi; omega
    subst e
    have := (src_one w (.int .i64 x) t).2.2 _ rfl 0 (.int .i64 x) rfl
    exact this⟩⟩

set_option maxHeartbeats 8000000 in
set_option maxRecDepth 100000 in
theorem beginI (last : Int) (oo : Option Addr) (oc : Nat) (op : List Int) (ro : Option Addr) (rc n : Nat) (g : Nat → Vw) (hp : op.length ≤ 1048576) (hn : n ≤ 1048576) (hm : ∀ k, k < n → (g k).xs.length ≤ 1048576) (w : World) (h : MH w w.heap.size oo op ro n g) :
    Calls Try.prog 17 #[.agg #[.int .i64 last, .slice oo op.length oc, .slice ro n rc]] w (MnEnd (begL last op (conL n g)) (begO last op (conL n g)) (begC last op (conL n g)) (begL last op (conL n g)) (begB last op (conL n g)) w) := by
  have hb0 := ((Below.refl w.heap.size w).alloc (Nat.le_refl _) (.cells #[.int .i64 last, .slice oo op.length oc, .slice ro n rc] 30)).alloc (by simp) (.cells #[.int .i64 0, .slice none 0 0, .slice none 0 0] 30)
  have HX0 := Lib.hid ((B3.new w (.int .i64 last) (.slice oo op.length oc) (.slice ro n rc) 30).alloc (.cells #[.int .i64 0, .slice none 0 0, .slice none 0 0] 30))
  have HX1 := Lib.hid (B3.new (w.alloc (.cells #[.int .i64 last, .slice oo op.length oc, .slice ro n rc] 30)) (.int .i64 0) (.slice none 0 0) (.slice none 0 0) 30)
  rw [World.size_alloc] at HX1
  have HB0 := Lib.hid hb0
  have H0 := Lib.hid (h.below hb0.size hb0)
  have HC := Lib.hid (ledgerI last oo oc op ro rc n g hp hn hm _ H0.out)
  have HT := Lib.hid (fun last oo oc op ro rc hp W h1 h2 => tellI last oo oc op ro rc n g hp hn hm W h1 h2)
  obtain ⟨cs, hcs⟩ : ∃ cs, conL n g = cs := ⟨_, rfl⟩
  rw [hcs] at HC HT ⊢
  clear h hb0 hm
  go_enter Try.func17, Try.ntmps17
  go_wp2_with fail
  generalize (w.alloc (.cells #[.int .i64 last, .slice oo op.length oc, .slice ro n rc] 30)).alloc (.cells #[.int .i64 0, .slice none 0 0, .slice none 0 0] 30) = W at HB0 HX0 HX1 H0 HC ⊢
  obtain ⟨x0, x1, x2⟩ := HX0.out.cells
  go_wp2_with fail
  refine HC.out.mono ?_
  rintro e w1 ⟨lo, lc, rfl, hO, hb1⟩
  have hba := (Below.refl w1.heap.size w1).alloc (Nat.le_refl _) (.cells #[.int .i64 last, .slice oo op.length oc, .slice lo n lc] 61)
  have hMH := (H0.out.below hb1.size hb1)
  have HVr := Lib.hid (vf_own rC_len hO hMH.2.2)
  have HIo := Lib.hid hMH.1
  have HB1 := Lib.hid ((HB0.out.trans (hb1.mono HB0.out.size)).trans (hba.mono (Nat.le_trans HB0.out.size hb1.size)))
  have HXb := Lib.hid ((HX1.out.below hb1).below hba)
  have HY := Lib.hid (B3.new w1 (.int .i64 last) (.slice oo op.length oc) (.slice lo n lc) 61)
  have HB0' := Lib.hid (HB0.out.trans (hb1.mono HB0.out.size))
  have HX1' := Lib.hid (HX1.out.below hb1)
  have HLt : Hid (w.heap.size + 1 < w1.heap.size) := Lib.hid (HX1.out.below hb1).lt
  clear hb1 hba hMH hO HC HB0 HX0 HX1 H0 x0 x1 x2
  obtain ⟨y0, y1, y2⟩ := HXb.out.cells
  have f0 := HXb.out.free 0; have f1 := HXb.out.free 1; have f2 := HXb.out.free 2
  obtain ⟨z0, z1, z2⟩ := HY.out.cells
  have k0 := HY.out.free 0; have k1 := HY.out.free 1; have k2 := HY.out.free 2
  cases hgm : goodMk last op cs with
  | false =>
    have HZ' : Hid (∀ (a b c : Nat) (x y z : Value), MnEnd (begL last op cs) (begO last op cs) (begC last op cs) (begL last op cs) (begB last op cs) w (.returned (.tuple #[.agg #[.int .i64 0, .slice none 0 0, .slice none 0 0], .int .i64 0, .bool false])) ((((w1.alloc (.cells #[.int .i64 last, .slice oo op.length oc, .slice lo n lc] 61)).setCell ⟨w.heap.size + 1, a, none⟩ x).setCell ⟨w.heap.size + 1, b, none⟩ y).setCell ⟨w.heap.size + 1, c, none⟩ z)) := Lib.hid (fun a b c x y z =>
      mn_no (begB_bad hgm) (HB1.out.trans ((only_set3 _ a b c x y z).below (B := w.heap.size) (fun i _ hi => by omega) HB1.out.size)))
    clear hgm
    go_wp2_with fail
    generalize w1.alloc (.cells #[.int .i64 last, .slice oo op.length oc, .slice lo n lc] 61) = w2 at HZ' y0 y1 y2 f0 f1 f2 z0 z1 z2 k0 k1 k2 ⊢
    go_wp2
    exact bodyPost_ret (v := .tuple #[.agg #[.int .i64 0, .slice none 0 0, .slice none 0 0], .int .i64 0, .bool false]) (by simp [results, Try.results17, go_sem, y0, y1, y2]) rfl (HZ'.out _ _ _ _ _ _)
  | true =>
    have hG := goodMk_is hgm
    have hl := hG.1.1
    have h8' : op.length ≤ 8 := hG.1.2.1
    have HGm := Lib.hid hgm
    have HIn := Lib.hid hG.1
    clear hG hgm
    by_cases hlm : last = 100000
    · have HZ' : Hid (∀ (a b c : Nat) (x y z : Value), MnEnd (begL last op cs) (begO last op cs) (begC last op cs) (begL last op cs) (begB last op cs) w (.returned (.tuple #[.agg #[.int .i64 0, .slice none 0 0, .slice none 0 0], .int .i64 0, .bool false])) ((((w1.alloc (.cells #[.int .i64 last, .slice oo op.length oc, .slice lo n lc] 61)).setCell ⟨w.heap.size + 1, a, none⟩ x).setCell ⟨w.heap.size + 1, b, none⟩ y).setCell ⟨w.heap.size + 1, c, none⟩ z)) := Lib.hid (fun a b c x y z =>
        mn_no (begB_last hlm) (HB1.out.trans ((only_set3 _ a b c x y z).below (B := w.heap.size) (fun i _ hi => by omega) HB1.out.size)))
      have el : (last == 100000) = true := by rw [hlm]; rfl
      clear hlm
      go_wp2_with fail
      generalize w1.alloc (.cells #[.int .i64 last, .slice oo op.length oc, .slice lo n lc] 61) = w2 at HZ' y0 y1 y2 f0 f1 f2 z0 z1 z2 k0 k1 k2 ⊢
      go_wp2
      exact bodyPost_ret (v := .tuple #[.agg #[.int .i64 0, .slice none 0 0, .slice none 0 0], .int .i64 0, .bool false]) (by simp [results, Try.results17, go_sem, y0, y1, y2]) rfl (HZ'.out _ _ _ _ _ _)
    · have el : (last == 100000) = false := by simp; omega
      by_cases h8 : op.length = 8
      · have HZ' : Hid (∀ (a b c : Nat) (x y z : Value), MnEnd (begL last op cs) (begO last op cs) (begC last op cs) (begL last op cs) (begB last op cs) w (.returned (.tuple #[.agg #[.int .i64 0, .slice none 0 0, .slice none 0 0], .int .i64 0, .bool false])) ((((w1.alloc (.cells #[.int .i64 last, .slice oo op.length oc, .slice lo n lc] 61)).setCell ⟨w.heap.size + 1, a, none⟩ x).setCell ⟨w.heap.size + 1, b, none⟩ y).setCell ⟨w.heap.size + 1, c, none⟩ z)) := Lib.hid (fun a b c x y z =>
          mn_no (begB_8 h8) (HB1.out.trans ((only_set3 _ a b c x y z).below (B := w.heap.size) (fun i _ hi => by omega) HB1.out.size)))
        have e8 : ((op.length : Int) == 8) = true := by rw [h8]; rfl
        clear h8
        go_wp2_with fail
        generalize w1.alloc (.cells #[.int .i64 last, .slice oo op.length oc, .slice lo n lc] 61) = w2 at HZ' y0 y1 y2 f0 f1 f2 z0 z1 z2 k0 k1 k2 ⊢
        go_wp2
        exact bodyPost_ret (v := .tuple #[.agg #[.int .i64 0, .slice none 0 0, .slice none 0 0], .int .i64 0, .bool false]) (by simp [results, Try.results17, go_sem, y0, y1, y2]) rfl (HZ'.out _ _ _ _ _ _)
      · have e8 : ((op.length : Int) == 8) = false := by simp; omega
        have HBt := Lib.hid (begB_of HGm.out h8 hlm)
        go_wp2_with fail
        have hlen : (op ++ [last + 1]).length = op.length + 1 := by simp
        have hba := (((Below.refl w1.heap.size w1).alloc (Nat.le_refl _) (.cells #[.int .i64 (last + 1), .slice oo op.length oc, .slice lo n lc] 61)).alloc (by simp) (.cells #[.int .i64 (last + 1)] 3)).alloc (by simp; omega) (.cells #[.slice oo op.length oc, .slice (some ⟨w1.heap.size + 1, 0, none⟩) 1 1] 22)
        have hbt := Bt.new ((w1.alloc (.cells #[.int .i64 (last + 1), .slice oo op.length oc, .slice lo n lc] 61)).alloc (.cells #[.int .i64 (last + 1)] 3)) (.slice oo op.length oc) (.slice (some ⟨w1.heap.size + 1, 0, none⟩) 1 1) 22
        have hone := irow_one (w1.alloc (.cells #[.int .i64 (last + 1), .slice oo op.length oc, .slice lo n lc] 61)) (last + 1) (by unfold In64; omega) 3
        have hone2 := hone.below (B' := w1.heap.size + 1 + 1 + 1) (by simp) ((Below.refl _ _).alloc (by simp) (.cells #[.slice oo op.length oc, .slice (some ⟨w1.heap.size + 1, 0, none⟩) 1 1] 22))
        have hYc := ((B3.new w1 (.int .i64 (last + 1)) (.slice oo op.length oc) (.slice lo n lc) 61).alloc (.cells #[.int .i64 (last + 1)] 3)).alloc (.cells #[.slice oo op.length oc, .slice (some ⟨w1.heap.size + 1, 0, none⟩) 1 1] 22)
        simp only [World.size_alloc] at hbt hone2
        have hsc : (((w1.alloc (.cells #[.int .i64 (last + 1), .slice oo op.length oc, .slice lo n lc] 61)).alloc (.cells #[.int .i64 (last + 1)] 3)).alloc (.cells #[.slice oo op.length oc, .slice (some ⟨w1.heap.size + 1, 0, none⟩) 1 1] 22)).heap.size = w1.heap.size + 1 + 1 + 1 := by simp
        clear z0 z1 z2 k0 k1 k2 y0 y1 y2 f0 f1 f2 hone
        generalize (((w1.alloc (.cells #[.int .i64 (last + 1), .slice oo op.length oc, .slice lo n lc] 61)).alloc (.cells #[.int .i64 (last + 1)] 3)).alloc (.cells #[.slice oo op.length oc, .slice (some ⟨w1.heap.size + 1, 0, none⟩) 1 1] 22)) = wc at hba hbt hone2 hYc hsc ⊢
        refine (concatI _ oo (some ⟨w1.heap.size + 1, 0, none⟩) oc 1 op [last + 1] (by omega) (by simp) wc hbt (HIo.out.below hba.size hba) (by rw [hsc]; exact hone2)).mono ?_
        rintro e w4 ⟨⟨bo, c4, rfl, hown⟩, hb4⟩
        have hY4 := (hYc.below hb4).set1 (.slice bo (op.length + 1) c4)
        have hbz := hba.trans (hb4.mono hba.size)
        have hge : w1.heap.size + 1 ≤ w4.heap.size := by have := hb4.size; omega
        have hX4 := (HX1'.out.below hbz).other (p := ⟨w1.heap.size, 1, none⟩) (by show w.heap.size + 1 ≠ w1.heap.size; have := HLt.out; omega) (.slice bo (op.length + 1) c4)
        have hb5 := hbz.setCell (p := ⟨w1.heap.size, 1, none⟩) (Nat.le_refl _) (.slice bo (op.length + 1) c4)
        have hI5 : IRow (w4.setCell ⟨w1.heap.size, 1, none⟩ (.slice bo (op.length + 1) c4)) (w4.setCell ⟨w1.heap.size, 1, none⟩ (.slice bo (op.length + 1) c4)).heap.size bo (op ++ [last + 1]) :=
          (irow_own (fun x hx => by
            rcases List.mem_append.1 hx with h | h
            · exact HIo.out.1 x h
            · rw [List.mem_singleton] at h; subst h; unfold In64; omega) hown).only (Only.set (S := fun i => i = w1.heap.size) _ _ rfl) (fun hp e => by have := (own_free hown hp).1; omega)
        have HY5 := Lib.hid hY4
        have HX5 := Lib.hid hX4
        have HB5 := Lib.hid (HB0'.out.trans (hb5.mono HB0'.out.size))
        have HT5 : Hid (Calls Try.prog 47 #[.agg #[.int .i64 (last + 1), .slice bo (op.length + 1) c4, .slice lo n lc]] (w4.setCell ⟨w1.heap.size, 1, none⟩ (.slice bo (op.length + 1) c4)).drew fun e w' => ∃ o6 c6 r6 rc6 n6, e = .returned (.agg #[.int .i64 (last + 1), .slice o6 (op.length + 1) c6, .slice r6 n6 rc6]) ∧ MkEnd (last + 1) (op ++ [last + 1]) cs (w4.setCell ⟨w1.heap.size, 1, none⟩ (.slice bo (op.length + 1) c4)).drew (.agg #[.int .i64 (last + 1), .slice o6 (op.length + 1) c6, .slice r6 n6 rc6]) w' ∧ Below (w4.setCell ⟨w1.heap.size, 1, none⟩ (.slice bo (op.length + 1) c4)).drew.heap.size (w4.setCell ⟨w1.heap.size, 1, none⟩ (.slice bo (op.length + 1) c4)).drew w') := Lib.hid (by
          have h1 := HT.out (last + 1) bo c4 (op ++ [last + 1]) lo lc (by omega) (w4.setCell ⟨w1.heap.size, 1, none⟩ (.slice bo (op.length + 1) c4)).drew hI5 (HVr.out.below hb5.size hb5.drew)
          rw [hlen] at h1
          refine h1.mono ?_
          rintro e w6 ⟨v, rfl, hv⟩
          have hv0 := hv
          obtain ⟨o6, c6, r6, rc6, n6, g6, rfl, _, _, _, hb6⟩ := hv
          rw [hlen] at hv0 ⊢
          exact ⟨o6, c6, r6, rc6, n6, rfl, hv0, hb6⟩)
        have ho5 := (hYc.below hb4).cells
        have hk5 := (hYc.below hb4).free 1
        obtain ⟨z0, z1, z2⟩ := ho5
        clear hba hbt hone2 hYc hsc hown hb4 hY4 hbz hX4 hb5 hI5 HVr HIo HB1 HXb HY HB0' HX1' HT
        go_upto_region 6 with fail
        generalize w4.setCell ⟨w1.heap.size, 1, none⟩ (.slice bo (op.length + 1) c4) = w5 at HY5 HX5 HB5 HT5 ⊢
        have hsx : w.heap.size + 1 < w5.drew.heap.size := HX5.out.lt
        have HE : Hid (∀ w6 v, MkEnd (last + 1) (op ++ [last + 1]) cs w5.drew v w6 → ∀ (a b c : Nat) (x y z : Value), MnEnd (begL last op cs) (begO last op cs) (begC last op cs) (begL last op cs) (begB last op cs) w (.returned (.tuple #[v, .int .i64 (last + 1), .bool true])) (((w6.setCell ⟨w.heap.size + 1, a, none⟩ x).setCell ⟨w.heap.size + 1, b, none⟩ y).setCell ⟨w.heap.size + 1, c, none⟩ z)) := Lib.hid (fun w6 v hv a b c x y z =>
          mn_yes HBt.out (hv.only HB5.out.drew ((only_set3 w6 a b c x y z).mono (fun i _ hi => by subst hi; exact ⟨by omega, by omega⟩))))
        have hb0 := (Below.refl w5.heap.size w5).drew
        have hne : w1.heap.size ≠ w.heap.size + 1 := by have := HLt.out; omega
        clear z0 z1 z2 hk5 hge hlen HB5 HBt HLt hl h8' h8 hlm el e8 HGm HIn hsx
        generalize op.length + 1 = m at HY5 HT5 ⊢
        generalize hO : op ++ [last + 1] = O at HE HT5
        clear hO
        obtain ⟨y0, y1, y2⟩ := HY5.out.cells
        obtain ⟨x0, x1, x2⟩ := HX5.out.cells
        go_region_law ((go_simp; go_at_call 47; refine HT5.out.mono ?_; rintro e w6 ⟨o6, c6, r6, rc6, n6, rfl, hM6, hb6⟩; have hb6' := hb0.trans hb6; obtain ⟨p0, p1, p2⟩ := (HY5.out.below hb6').cells; obtain ⟨q0, q1, q2⟩ := (HX5.out.below hb6').cells; have g0 := (HX5.out.below hb6').free 0; have g1 := (HX5.out.below hb6').free 1; have g2 := (HX5.out.below hb6').free 2))
        all_goals
          have HR := Lib.hid (HE.out _ _ hM6)
          clear hM6 HE HT5
          go_wp2
          first
            | exact bodyPost_ret (v := .tuple #[.agg #[.int .i64 (last + 1), .slice o6 m c6, .slice r6 n6 rc6], .int .i64 (last + 1), .bool true]) (by simp [results, Try.results17, go_sem, q0, q1, q2]) rfl (HR.out _ _ _ _ _ _)
            | trace_state
end Go.Proofs.Ytabkjjbhnapgpaa
