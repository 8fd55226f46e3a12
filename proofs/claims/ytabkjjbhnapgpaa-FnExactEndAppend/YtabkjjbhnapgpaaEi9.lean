/- Contracts of EndAppend, in the program; over this seat's translation. -/
import Derived.Test.YtabkjjbhnapgpaaEv9
import Derived.Test.YtabkjjbhnapgpaaSv9
import Derived.Test.YtabkjjbhnapgpaaKa
import Derived.Test.YtabkjjbhnapgpaaBi
namespace Go.Proofs.Ytabkjjbhnapgpaa
open Go.RowKit Go.Deep Go.ChangeShapes Go.WideShapes Go.ChangeAt

set_option maxHeartbeats 8000000 in
set_option maxRecDepth 100000 in
theorem endI (last : Int) (oo : Option Addr) (oc : Nat) (op : List Int) (ro : Option Addr) (rc n : Nat) (g : Nat → Vw) (id : Int) (hid : In64 id) (hp : op.length ≤ 1048576) (hn : n ≤ 1048576) (hm : ∀ k, k < n → (g k).xs.length ≤ 1048576) (w : World) (h : MH w w.heap.size oo op ro n g) :
    Calls Try.prog 21 #[.agg #[.int .i64 last, .slice oo op.length oc, .slice ro n rc], .int .i64 id] w (MbEnd (endL last op (conL n g) id) (endO last op (conL n g) id) (endC last op (conL n g) id) (endB last op (conL n g) id) w) := by
  have hb0 := ((Below.refl w.heap.size w).alloc (Nat.le_refl _) (.cells #[.int .i64 last, .slice oo op.length oc, .slice ro n rc] 30)).alloc (by simp) (.cells #[.int .i64 0, .slice none 0 0, .slice none 0 0] 30)
  have HX0 := Lib.hid ((B3.new w (.int .i64 last) (.slice oo op.length oc) (.slice ro n rc) 30).alloc (.cells #[.int .i64 0, .slice none 0 0, .slice none 0 0] 30))
  have HX1 := Lib.hid (B3.new (w.alloc (.cells #[.int .i64 last, .slice oo op.length oc, .slice ro n rc] 30)) (.int .i64 0) (.slice none 0 0) (.slice none 0 0) 30)
  rw [World.size_alloc] at HX1
  have HB0 := Lib.hid hb0
  have H0 := Lib.hid (h.below hb0.size hb0)
  have HC := Lib.hid (ledgerI last oo oc op ro rc n g hp hn hm _ H0.out)
  have HHs := Lib.hid (fun W hW => containsI oo oc op id hp W hW)
  have HT := Lib.hid (fun last oo oc op ro rc hp W h1 h2 => tellI last oo oc op ro rc n g hp hn hm W h1 h2)
  have HRo := Lib.hid (fun W => rrI (.slice oo op.length oc) op.length oo oc rfl W)
  have HRn := Lib.hid (fun b W => rrI (.slice (some ⟨b, 0, none⟩) 1 1) 1 (some ⟨b, 0, none⟩) 1 rfl W)
  have HId := Lib.hid hid
  obtain ⟨cs, hcs⟩ : ∃ cs, conL n g = cs := ⟨_, rfl⟩
  rw [hcs] at HC HT ⊢
  clear h hb0 hm hid
  go_enter Try.func21, Try.ntmps21
  go_wp2_with fail
  generalize (w.alloc (.cells #[.int .i64 last, .slice oo op.length oc, .slice ro n rc] 30)).alloc (.cells #[.int .i64 0, .slice none 0 0, .slice none 0 0] 30) = W at HB0 HX0 HX1 H0 HC ⊢
  obtain ⟨x0, x1, x2⟩ := HX0.out.cells
  go_wp2_with fail
  refine HC.out.mono ?_
  rintro e w1 ⟨lo, lc, rfl, hO, hb1⟩
  have hba := (Below.refl w1.heap.size w1).alloc (Nat.le_refl _) (.cells #[.int .i64 last, .slice oo op.length oc, .slice lo n lc] 61)
  have hMH := (H0.out.below hb1.size hb1)
  have HVr := Lib.hid ((vf_own rC_len hO hMH.2.2).below hba.size hba)
  have HIo := Lib.hid (hMH.1.below hba.size hba)
  have HB1 := Lib.hid ((HB0.out.trans (hb1.mono HB0.out.size)).trans (hba.mono (Nat.le_trans HB0.out.size hb1.size)))
  have HXb := Lib.hid ((HX1.out.below hb1).below hba)
  have HY := Lib.hid (B3.new w1 (.int .i64 last) (.slice oo op.length oc) (.slice lo n lc) 61)
  have hne : w1.heap.size ≠ w.heap.size + 1 := by have := (HX1.out.below hb1).lt; omega
  have hlt : w.heap.size ≤ w1.heap.size := by have := (HX1.out.below hb1).lt; omega
  have HVl := Lib.hid (vf_own rC_len hO hMH.2.2)
  clear hb1 hMH hO HC HB0 HX0 HX1 H0 x0 x1 x2
  obtain ⟨y0, y1, y2⟩ := HXb.out.cells
  have f0 := HXb.out.free 0; have f1 := HXb.out.free 1; have f2 := HXb.out.free 2
  obtain ⟨z0, z1, z2⟩ := HY.out.cells
  have k0 := HY.out.free 0; have k1 := HY.out.free 1; have k2 := HY.out.free 2
  have HZ : Hid (endB last op cs id = false → ∀ (a b c : Nat) (x y z : Value), MbEnd (endL last op cs id) (endO last op cs id) (endC last op cs id) (endB last op cs id) w (.returned (.tuple #[.agg #[.int .i64 0, .slice none 0 0, .slice none 0 0], .bool false])) ((((w1.alloc (.cells #[.int .i64 last, .slice oo op.length oc, .slice lo n lc] 61)).setCell ⟨w.heap.size + 1, a, none⟩ x).setCell ⟨w.heap.size + 1, b, none⟩ y).setCell ⟨w.heap.size + 1, c, none⟩ z)) := Lib.hid (fun hb a b c x y z =>
    mb_no hb (HB1.out.trans ((only_set3 _ a b c x y z).below (B := w.heap.size) (fun i _ hi => by omega) HB1.out.size)))
  have HBa := Lib.hid hba
  have hs2 : (w1.alloc (.cells #[.int .i64 last, .slice oo op.length oc, .slice lo n lc] 61)).heap.size = w1.heap.size + 1 := by simp
  clear hba
  cases hgm : goodMk last op cs with
  | false =>
    have HZ' := Lib.hid (HZ.out (endB_bad hgm))
    clear hgm HZ
    go_wp2_with fail
    generalize w1.alloc (.cells #[.int .i64 last, .slice oo op.length oc, .slice lo n lc] 61) = w2 at HVr HIo HB1 HXb HY y0 y1 y2 f0 f1 f2 z0 z1 z2 k0 k1 k2 HZ' HBa hs2 ⊢
    go_wp2
    exact bodyPost_ret (v := .tuple #[.agg #[.int .i64 0, .slice none 0 0, .slice none 0 0], .bool false]) (by simp [results, Try.results21, go_sem, y0, y1, y2]) rfl (HZ'.out _ _ _ _ _ _)
  | true =>
    have hG := (goodMk_is hgm).1
    have h8' : op.length ≤ 8 := hG.2.1
    have HGm := Lib.hid hgm
    clear hG hgm
    go_wp2_with fail
    generalize w1.alloc (.cells #[.int .i64 last, .slice oo op.length oc, .slice lo n lc] 61) = w2 at HVr HIo HB1 HXb HY y0 y1 y2 f0 f1 f2 z0 z1 z2 k0 k1 k2 HZ HBa hs2 ⊢
    refine (HHs.out _ HIo.out).mono ?_
    rintro e w2' ⟨rfl, rfl⟩
    cases hin : decide (id ∈ op) with
    | false =>
      have HZ' := Lib.hid (HZ.out (endB_not hin))
      clear hin HZ
      go_wp2
      exact bodyPost_ret (v := .tuple #[.agg #[.int .i64 0, .slice none 0 0, .slice none 0 0], .bool false]) (by simp [results, Try.results21, go_sem, y0, y1, y2]) rfl (HZ'.out _ _ _ _ _ _)
    | true =>
      have HBt := Lib.hid (endB_of HGm.out hin)
      clear HZ hin
      go_wp2_with fail
      refine (HRo.out _).mono ?_
      rintro e w3 ⟨rfl, hb3⟩
      have hone := irow_one w3 id HId.out 3
      have hb3a := hb3.trans (((Below.refl w3.heap.size w3).alloc (Nat.le_refl _) (.cells #[.int .i64 id] 3)).mono hb3.size)
      have hs3 : (w3.alloc (.cells #[.int .i64 id] 3)).heap.size = w3.heap.size + 1 := by simp
      clear y0 y1 y2 f0 f1 f2 z0 z1 z2 k0 k1 k2
      have hY3 := HY.out.below hb3
      obtain ⟨z0, z1, z2⟩ := hY3.cells
      have hY3a := HY.out.below hb3a
      obtain ⟨za0, za1, za2⟩ := hY3a.cells
      go_wp2_with fail
      generalize w3.alloc (.cells #[.int .i64 id] 3) = w3a at hone hb3a hs3 hY3a za0 za1 za2 ⊢
      refine (HRn.out _ _).mono ?_
      rintro e w4 ⟨rfl, hb4⟩
      have hb4a := hb3a.trans (hb4.mono hb3a.size)
      have hone4 := hone.below (B' := w4.heap.size) (by have := hb4.size; omega) (hb4.mono (by omega) : Below (w3.heap.size + 1) w3a w4)
      have hupr : upR [id] := fun k hk => absurd hk (by simp)
      have HF := Lib.hid (inFirstI oo (some ⟨w3.heap.size, 0, none⟩) oc 1 op [id] (by omega) hupr (by simp) w4 (HIo.out.below hb4a.size hb4a) hone4)
      have HQi : ∀ x ∈ siftR op [id] false, In64 x := siftR_in64 HIo.out.1
      have HQl : (siftR op [id] false).length ≤ 1048576 := Nat.le_trans (siftR_len op [id] false) hp
      have hYa := HY.out.below hb4a
      have hXa := HXb.out.below hb4a
      have hba4 := HBa.out.trans (hb4a.mono HBa.out.size)
      have hB4 := HB1.out.trans (hb4a.mono HB1.out.size)
      have hg4 : w1.heap.size < w4.heap.size := hYa.lt
      clear hone hone4 hb4 hb4a hb3 hb3a hY3 hY3a za0 za1 za2 z0 z1 z2 hs3 hs2 hupr HY HXb HBa HB1 HVr HIo
      generalize hq : siftR op [id] false = q at HF HQi HQl
      unfold LiEnd at HF
      obtain ⟨z0, z1, z2⟩ := hYa.cells
      have k1 := hYa.free 1
      go_wp2_with fail
      refine HF.out.mono ?_
      rintro e w5 ⟨⟨bo, c5, rfl, hown⟩, hb5⟩
      have hY5 := hYa.below hb5
      have hX5 := hXa.below hb5
      have hba5 := hba4.trans (hb5.mono hba4.size)
      have hB5 := hB4.trans (hb5.mono hB4.size)
      have hb6 := hba5.setCell (p := ⟨w1.heap.size, 1, none⟩) (Nat.le_refl _) (.slice bo q.length c5)
      have HB6 := Lib.hid (hB5.setCell (p := ⟨w1.heap.size, 1, none⟩) hlt (.slice bo q.length c5))
      have HY6 := Lib.hid (hY5.set1 (.slice bo q.length c5))
      have HX6 := Lib.hid (hX5.other (p := ⟨w1.heap.size, 1, none⟩) (by show w.heap.size + 1 ≠ w1.heap.size; omega) (.slice bo q.length c5))
      have hI6 : IRow (w5.setCell ⟨w1.heap.size, 1, none⟩ (.slice bo q.length c5)) (w5.setCell ⟨w1.heap.size, 1, none⟩ (.slice bo q.length c5)).heap.size bo q :=
        (irow_own HQi hown).only (Only.set (S := fun i => i = w1.heap.size) _ _ rfl) (fun hp e => by have := (own_free hown hp).1; omega)
      have HT6 := Lib.hid (HT.out last bo c5 q lo lc HQl _ hI6 (HVl.out.below hb6.size hb6))
      clear z0 z1 z2 k1
      obtain ⟨z0, z1, z2⟩ := hY5.cells
      have k1 := hY5.free 1
      obtain ⟨za0, za1, za2⟩ := HY6.out.cells
      clear hown hb5 hY5 hX5 hba5 hB5 hb6 hI6 hba4 hB4 hYa hXa HF HQi HVl HT
      go_wp2_with fail
      generalize w5.setCell ⟨w1.heap.size, 1, none⟩ (.slice bo q.length c5) = w6 at HB6 HY6 HX6 HT6 za0 za1 za2 ⊢
      refine HT6.out.mono ?_
      rintro e w7 ⟨v, rfl, hv⟩
      have hv0 := hv
      obtain ⟨o7, c7, r7, rc7, n7, g7, rfl, _, _, _, hb7⟩ := hv
      have hXb := HX6.out.below hb7
      have HE : Hid (∀ (a b c : Nat) (x y z : Value), MbEnd (endL last op cs id) (endO last op cs id) (endC last op cs id) (endB last op cs id) w (.returned (.tuple #[.agg #[.int .i64 last, .slice o7 q.length c7, .slice r7 n7 rc7], .bool true])) (((w7.setCell ⟨w.heap.size + 1, a, none⟩ x).setCell ⟨w.heap.size + 1, b, none⟩ y).setCell ⟨w.heap.size + 1, c, none⟩ z)) := Lib.hid (fun a b c x y z => by
        subst hq
        exact mb_yes HBt.out (hv0.only HB6.out ((only_set3 w7 a b c x y z).mono (fun i _ hi => by have := HX6.out.lt; subst hi; exact ⟨by omega, by omega⟩))))
      clear z0 z1 z2 za0 za1 za2 k1
      obtain ⟨y0, y1, y2⟩ := hXb.cells
      have f0 := hXb.free 0; have f1 := hXb.free 1; have f2 := hXb.free 2
      clear hv0 hb7 hXb HX6 HY6 HB6 HT6 hq
      go_wp2
      exact bodyPost_ret (v := .tuple #[.agg #[.int .i64 last, .slice o7 q.length c7, .slice r7 n7 rc7], .bool true]) (by simp [results, Try.results21, go_sem, y0, y1, y2]) rfl (HE.out _ _ _ _ _ _)
end Go.Proofs.Ytabkjjbhnapgpaa
