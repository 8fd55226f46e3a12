/- Contracts of EndAppend, in the model; over this seat's translation. -/
import Derived.Test.YtabkjjbhnapgpaaEv9
import Derived.Test.YtabkjjbhnapgpaaSv9
import Derived.Test.YtabkjjbhnapgpaaKa
import Derived.Test.YtabkjjbhnapgpaaVn
import Derived.Test.YtabkjjbhnapgpaaNp
namespace Go.Proofs.Ytabkjjbhnapgpaa
open Go.RowKit Go.Deep Go.ChangeShapes Go.WideShapes Go.ChangeAt

set_option maxHeartbeats 4000000 in
set_option maxRecDepth 100000 in
theorem end9M (last : Int) (oo : Option Addr) (oc : Nat) (op : List Int) (ro : Option Addr) (rc n : Nat) (g : Nat → Vw) (id : Int) (hp : op.length ≤ 20) (hn : n ≤ 1048576) (hm : ∀ k, k < n → (g k).xs.length ≤ 1048576) (w : World) (h : MH w w.heap.size oo op ro n g) :
    Calls Try.prog 53 #[.agg #[.int .i64 last, .slice oo op.length oc, .slice ro n rc], .int .i64 id] w fun e w' => ∃ v, e = .returned v ∧ MkEnd last (siftR op [id] false) (conL n g) w v w' := by
  have hb0 := ((Below.refl w.heap.size w).alloc (Nat.le_refl _) (.cells #[.int .i64 last, .slice oo op.length oc, .slice ro n rc] 30)).alloc (by simp) (.cells #[.int .i64 0, .slice none 0 0, .slice none 0 0] 30)
  have HX0 := Lib.hid ((B3.new w (.int .i64 last) (.slice oo op.length oc) (.slice ro n rc) 30).alloc (.cells #[.int .i64 0, .slice none 0 0, .slice none 0 0] 30))
  have HX1 := Lib.hid (B3.new (w.alloc (.cells #[.int .i64 last, .slice oo op.length oc, .slice ro n rc] 30)) (.int .i64 0) (.slice none 0 0) (.slice none 0 0) 30)
  rw [World.size_alloc] at HX1
  have HB0 := Lib.hid hb0
  have H0 := Lib.hid (h.below hb0.size hb0)
  have HC := Lib.hid (own9W last oo oc op ro rc n g (by omega) hn hm _ H0.out)
  have HW := Lib.hid (fun W hW => withoutM oo oc op id hp W hW)
  have hsz : ((w.alloc (.cells #[.int .i64 last, .slice oo op.length oc, .slice ro n rc] 30)).alloc (.cells #[.int .i64 0, .slice none 0 0, .slice none 0 0] 30)).heap.size = w.heap.size + 1 + 1 := by simp
  have HQi : Hid ((∀ x ∈ op, In64 x) → ∀ x ∈ siftR op [id] false, In64 x) := Lib.hid siftR_in64
  clear h hm hb0
  generalize siftR op [id] false = q at HW HQi ⊢
  unfold LiEnd at HW
  go_enter Try.func53, Try.ntmps53
  go_wp2_with fail
  generalize (w.alloc (.cells #[.int .i64 last, .slice oo op.length oc, .slice ro n rc] 30)).alloc (.cells #[.int .i64 0, .slice none 0 0, .slice none 0 0] 30) = W at HB0 HX0 HX1 HC H0 hsz ⊢
  obtain ⟨x0, x1, x2⟩ := HX0.out.cells
  have HSz := Lib.hid hsz
  clear hsz
  go_wp2_with fail
  refine HC.out.mono ?_
  rintro e w1 ⟨_, rfl, oo1, oc1, ro1, rc1, n1, g1, rfl, hc1, hi1, hi2, hM1, hb1⟩
  have HIn := Lib.hid (show (∀ x ∈ q, In64 x) ∧ ∀ i, i < n1 → ∀ x ∈ (g1 i).xs, In64 x from ⟨HQi.out hi1, hi2⟩)
  have HCn := Lib.hid hc1
  have hba := (Below.refl w1.heap.size w1).alloc (Nat.le_refl _) (.cells #[.int .i64 last, .slice oo1 op.length oc1, .slice ro1 n1 rc1] 30)
  have HM := Lib.hid (hM1.below hba)
  have HY := Lib.hid (B3.new w1 (.int .i64 last) (.slice oo1 op.length oc1) (.slice ro1 n1 rc1) 30)
  have HNo := Lib.hid (MNo.far hM1 (X := w1.heap.size) (.inr (Nat.le_refl _)))
  have HXa := Lib.hid ((HX0.out.below hb1).below hba)
  have HXb := Lib.hid ((HX1.out.below hb1).below hba)
  have HIo := Lib.hid ((H0.out.1.below hb1.size hb1).below hba.size hba)
  have HB := Lib.hid ((HB0.out.trans (hb1.mono HB0.out.size)).alloc (Nat.le_trans HB0.out.size hb1.size) (.cells #[.int .i64 last, .slice oo1 op.length oc1, .slice ro1 n1 rc1] 30))
  have HLe : Hid (w.heap.size + 1 + 1 ≤ w1.heap.size) := Lib.hid (by have := HSz.out; have := hb1.size; omega)
  have hWs : W.heap.size = w.heap.size + 1 + 1 := HSz.out
  rw [hWs] at HM
  have hs2 : (w1.alloc (.cells #[.int .i64 last, .slice oo1 op.length oc1, .slice ro1 n1 rc1] 30)).heap.size = w1.heap.size + 1 := by simp
  clear hi1 hi2 hc1 hM1 hb1 hba HC HX0 HX1 HB0 HSz H0 HQi x0 x1 x2 hWs
  obtain ⟨x0, x1, x2⟩ := HXa.out.cells
  go_wp2_with fail
  generalize w1.alloc (.cells #[.int .i64 last, .slice oo1 op.length oc1, .slice ro1 n1 rc1] 30) = w2 at HM HY HXa HXb HIo HB hs2 x0 x1 x2 ⊢
  refine (HW.out _ HIo.out).mono ?_
  rintro e w4 ⟨⟨bo, c4, rfl, hown⟩, hb4⟩
  have hle := HLe.out
  have hX5 := HXb.out.below hb4
  have hY5 := HY.out.below hb4
  have hM5 := HM.out.fresh hb4 hown (by omega)
  have hN5 : MNo w1.heap.size bo ro1 n1 g1 := ⟨fun e => by have := (own_ob hown _ e).1; omega, HNo.out.2⟩
  have hB5 := HB.out.trans (hb4.mono HB.out.size)
  have HE : Hid (∀ (a b c : Nat) (x y z : Value), MkEnd last q (conL n g) w (.agg #[.int .i64 last, .slice bo q.length c4, .slice ro1 n1 rc1]) ((((w4.setCell ⟨w1.heap.size, 1, none⟩ (.slice bo q.length c4)).setCell ⟨w.heap.size + 1, a, none⟩ x).setCell ⟨w.heap.size + 1, b, none⟩ y).setCell ⟨w.heap.size + 1, c, none⟩ z)) := Lib.hid (fun a b c x y z => by
    have hMw : MwEnd last q (conL n g) w (.agg #[.int .i64 last, .slice bo q.length c4, .slice ro1 n1 rc1]) ((((w4.setCell ⟨w1.heap.size, 1, none⟩ (.slice bo q.length c4)).setCell ⟨w.heap.size + 1, a, none⟩ x).setCell ⟨w.heap.size + 1, b, none⟩ y).setCell ⟨w.heap.size + 1, c, none⟩ z) :=
      ⟨_, c4, _, _, n1, g1, rfl, HCn.out, HIn.out.1, HIn.out.2,
        ((((hM5.put hN5 _).set (by omega) x).set (by omega) y).set (by omega) z).lower (by omega),
        (hB5.setCell (by show w.heap.size ≤ w1.heap.size; omega) _).trans ((only_set3 _ a b c x y z).below (B := w.heap.size) (fun i _ hi => by omega) (hB5.setCell (by show w.heap.size ≤ w1.heap.size; omega) _).size)⟩
    exact hMw.mk)
  have hY6 := hY5.set1 (.slice bo q.length c4)
  have hX6 := hX5.other (p := ⟨w1.heap.size, 1, none⟩) (by show w.heap.size + 1 ≠ w1.heap.size; omega) (.slice bo q.length c4)
  obtain ⟨y0, y1, y2⟩ := hY5.cells
  have f1 := hY5.free 1
  obtain ⟨z0, z1, z2⟩ := hY6.cells
  have hne : w1.heap.size ≠ w.heap.size + 1 := by omega
  have g0 := hX6.free 0; have g1' := hX6.free 1; have g2 := hX6.free 2
  obtain ⟨v0, v1, v2⟩ := hX6.cells
  clear hown hb4 hX5 hM5 hN5 hB5 hY5 HM HY HXa HXb HB HIn HCn HNo HIo hle hs2 x0 x1 x2 hX6 hY6
  go_wp2
  exact bodyPost_ret (v := .agg #[.int .i64 last, .slice bo q.length c4, .slice ro1 n1 rc1]) (by simp [results, Try.results53, go_sem, v0, v1, v2]) rfl ⟨_, rfl, HE.out _ _ _ _ _ _⟩

set_option maxHeartbeats 4000000 in
set_option maxRecDepth 100000 in
theorem endM (last : Int) (oo : Option Addr) (oc : Nat) (op : List Int) (ro : Option Addr) (rc n : Nat) (g : Nat → Vw) (id : Int) (hp : op.length ≤ 1048576) (hn : n ≤ 1048576) (hm : ∀ k, k < n → (g k).xs.length ≤ 1048576) (w : World) (h : MH w w.heap.size oo op ro n g) :
    Calls Try.prog 20 #[.agg #[.int .i64 last, .slice oo op.length oc, .slice ro n rc], .int .i64 id] w (MbEnd (endL last op (conL n g) id) (endO last op (conL n g) id) (endC last op (conL n g) id) (endB last op (conL n g) id) w) := by
  have hb0 := ((Below.refl w.heap.size w).alloc (Nat.le_refl _) (.cells #[.int .i64 last, .slice oo op.length oc, .slice ro n rc] 30)).alloc (by simp) (.cells #[.int .i64 0, .slice none 0 0, .slice none 0 0] 30)
  have HX0 := Lib.hid ((B3.new w (.int .i64 last) (.slice oo op.length oc) (.slice ro n rc) 30).alloc (.cells #[.int .i64 0, .slice none 0 0, .slice none 0 0] 30))
  have HX1 := Lib.hid (B3.new (w.alloc (.cells #[.int .i64 last, .slice oo op.length oc, .slice ro n rc] 30)) (.int .i64 0) (.slice none 0 0) (.slice none 0 0) 30)
  rw [World.size_alloc] at HX1
  have HB0 := Lib.hid hb0
  have H0 := Lib.hid (h.below hb0.size hb0)
  have HC := Lib.hid (goodL last oo oc op ro rc n g hp hn hm _ H0.out)
  have HHs := Lib.hid (fun W hW => hasM oo oc op id hp W hW)
  have HEn := Lib.hid (fun h8 W hW => end9M last oo oc op ro rc n g id h8 hn hm W hW)
  obtain ⟨cs, hcs⟩ : ∃ cs, conL n g = cs := ⟨_, rfl⟩
  rw [hcs] at HC HEn ⊢
  clear h hb0 hm
  go_enter Try.func20, Try.ntmps20
  go_wp2_with fail
  generalize (w.alloc (.cells #[.int .i64 last, .slice oo op.length oc, .slice ro n rc] 30)).alloc (.cells #[.int .i64 0, .slice none 0 0, .slice none 0 0] 30) = W at HB0 HX0 HX1 H0 HC ⊢
  obtain ⟨x0, x1, x2⟩ := HX0.out.cells
  go_wp2_with fail
  refine HC.out.mono ?_
  rintro e w1 ⟨rfl, hb1⟩
  have HB1 := Lib.hid (HB0.out.trans (hb1.mono HB0.out.size))
  have HXa := Lib.hid (HX0.out.below hb1)
  have HXb := Lib.hid (HX1.out.below hb1)
  have H1 := Lib.hid (H0.out.below hb1.size hb1)
  clear hb1 HC HB0 HX0 HX1 H0 x0 x1 x2
  obtain ⟨x0, x1, x2⟩ := HXa.out.cells
  obtain ⟨y0, y1, y2⟩ := HXb.out.cells
  have f0 := HXb.out.free 0; have f1 := HXb.out.free 1; have f2 := HXb.out.free 2
  have HZ : Hid (endB last op cs id = false → ∀ (a b c : Nat) (x y z : Value), MbEnd (endL last op cs id) (endO last op cs id) (endC last op cs id) (endB last op cs id) w (.returned (.tuple #[.agg #[.int .i64 0, .slice none 0 0, .slice none 0 0], .bool false])) (((w1.setCell ⟨w.heap.size + 1, a, none⟩ x).setCell ⟨w.heap.size + 1, b, none⟩ y).setCell ⟨w.heap.size + 1, c, none⟩ z)) := Lib.hid (fun hb a b c x y z =>
    mb_no hb (HB1.out.trans ((only_set3 w1 a b c x y z).below (B := w.heap.size) (fun i _ hi => by omega) HB1.out.size)))
  cases hgm : goodMk last op cs with
  | true =>
    have h8' : op.length ≤ 8 := (goodMk_is hgm).1.2.1
    have HGm := Lib.hid hgm
    clear hgm
    go_wp2_with fail
    refine (HHs.out _ H1.out.1).mono ?_
    rintro e w1' ⟨rfl, rfl⟩
    cases hin : decide (id ∈ op) with
    | false =>
      have HZ' := Lib.hid (HZ.out (endB_not hin))
      clear hin HZ
      go_wp2
      exact bodyPost_ret (v := .tuple #[.agg #[.int .i64 0, .slice none 0 0, .slice none 0 0], .bool false]) (by simp [results, Try.results20, go_sem, y0, y1, y2]) rfl (HZ'.out _ _ _ _ _ _)
    | true =>
      have HBt := Lib.hid (endB_of HGm.out hin)
      have HEH := Lib.hid (HEn.out (by omega) _ H1.out)
      clear HZ hin HEn
      generalize hq : siftR op [id] false = q at HEH
      go_wp2_with fail
      refine HEH.out.mono ?_
      rintro e w2 ⟨v, rfl, hv⟩
      have hv0 := hv
      obtain ⟨oo2, oc2, ro2, rc2, n2, g2, rfl, _, _, _, hb2⟩ := hv
      have hXb := HXb.out.below hb2
      have HE : Hid (∀ (a b c : Nat) (x y z : Value), MbEnd (endL last op cs id) (endO last op cs id) (endC last op cs id) (endB last op cs id) w (.returned (.tuple #[.agg #[.int .i64 last, .slice oo2 q.length oc2, .slice ro2 n2 rc2], .bool true])) (((w2.setCell ⟨w.heap.size + 1, a, none⟩ x).setCell ⟨w.heap.size + 1, b, none⟩ y).setCell ⟨w.heap.size + 1, c, none⟩ z)) := Lib.hid (fun a b c x y z => by
        subst hq
        exact mb_yes HBt.out (hv0.only HB1.out ((only_set3 w2 a b c x y z).mono (fun i _ hi => by have := HXb.out.lt; subst hi; exact ⟨by omega, by omega⟩))))
      clear x0 x1 x2 y0 y1 y2 f0 f1 f2
      obtain ⟨y0, y1, y2⟩ := hXb.cells
      have f0 := hXb.free 0; have f1 := hXb.free 1; have f2 := hXb.free 2
      clear hv0 hb2 hXb HXb HXa H1 HB1 HEH hq
      go_wp2
      exact bodyPost_ret (v := .tuple #[.agg #[.int .i64 last, .slice oo2 q.length oc2, .slice ro2 n2 rc2], .bool true]) (by simp [results, Try.results20, go_sem, y0, y1, y2]) rfl (HE.out _ _ _ _ _ _)
  | false =>
    have HZ' := Lib.hid (HZ.out (endB_bad hgm))
    clear HZ hgm
    go_wp2
    exact bodyPost_ret (v := .tuple #[.agg #[.int .i64 0, .slice none 0 0, .slice none 0 0], .bool false]) (by simp [results, Try.results20, go_sem, y0, y1, y2]) rfl (HZ'.out _ _ _ _ _ _)
end Go.Proofs.Ytabkjjbhnapgpaa
