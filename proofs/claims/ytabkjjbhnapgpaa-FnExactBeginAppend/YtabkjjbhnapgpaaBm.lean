/- Contracts of BeginAppend, in the model; over this seat's translation. -/
import Derived.Test.YtabkjjbhnapgpaaBv
import Derived.Test.YtabkjjbhnapgpaaVn
import Derived.Test.YtabkjjbhnapgpaaNp
import Derived.Deep.RegionLaw
import Derived.Deep.DeepCutAuto
namespace Go.Proofs.Ytabkjjbhnapgpaa
open Go.RowKit Go.Deep Go.ChangeShapes Go.WideShapes Go.ChangeAt
set_option maxHeartbeats 4000000 in
set_option maxRecDepth 100000 in
theorem beg9M (last : Int) (oo : Option Addr) (oc : Nat) (op : List Int) (ro : Option Addr) (rc n : Nat) (g : Nat → Vw) (hl : 0 ≤ last ∧ last ≤ 100000) (hp : op.length ≤ 1000) (hn : n ≤ 1048576) (hm : ∀ k, k < n → (g k).xs.length ≤ 1048576) (w : World) (h : MH w w.heap.size oo op ro n g) :
    Calls Try.prog 45 #[.agg #[.int .i64 last, .slice oo op.length oc, .slice ro n rc]] w fun e w' => ∃ v, e = .returned (.tuple #[v, .int .i64 (last + 1)]) ∧ MkEnd (last + 1) (op ++ [last + 1]) (conL n g) w v w' := by
  have hb0 := ((Below.refl w.heap.size w).alloc (Nat.le_refl _) (.cells #[.int .i64 last, .slice oo op.length oc, .slice ro n rc] 30)).alloc (by simp) (.cells #[.int .i64 0, .slice none 0 0, .slice none 0 0] 30)
  have HX0 := Lib.hid ((B3.new w (.int .i64 last) (.slice oo op.length oc) (.slice ro n rc) 30).alloc (.cells #[.int .i64 0, .slice none 0 0, .slice none 0 0] 30))
  have HX1 := Lib.hid (B3.new (w.alloc (.cells #[.int .i64 last, .slice oo op.length oc, .slice ro n rc] 30)) (.int .i64 0) (.slice none 0 0) (.slice none 0 0) 30)
  rw [World.size_alloc] at HX1
  have HB0 := Lib.hid hb0
  have HC := Lib.hid (own9W last oo oc op ro rc n g (by omega) hn hm _ (h.below hb0.size hb0))
  obtain ⟨i0, hi, hz0, hz1, hz2⟩ := info_parts Try.info3
  have hsz : ((w.alloc (.cells #[.int .i64 last, .slice oo op.length oc, .slice ro n rc] 30)).alloc (.cells #[.int .i64 0, .slice none 0 0, .slice none 0 0] 30)).heap.size = w.heap.size + 1 + 1 := by simp
  obtain ⟨hl0, hl1⟩ := hl
  clear h hm hb0
  go_enter Try.func45, Try.ntmps45
  go_wp2_with fail
  generalize (w.alloc (.cells #[.int .i64 last, .slice oo op.length oc, .slice ro n rc] 30)).alloc (.cells #[.int .i64 0, .slice none 0 0, .slice none 0 0] 30) = W at HB0 HX0 HX1 HC hsz ⊢
  obtain ⟨x0, x1, x2⟩ := HX0.out.cells
  have HSz := Lib.hid hsz
  clear hsz
  go_wp2_with fail
  refine HC.out.mono ?_
  rintro e w1 ⟨_, rfl, oo1, oc1, ro1, rc1, n1, g1, rfl, hc1, hi1, hi2, hM1, hb1⟩
  have HIn := Lib.hid (show (∀ x ∈ op, In64 x) ∧ ∀ i, i < n1 → ∀ x ∈ (g1 i).xs, In64 x from ⟨hi1, hi2⟩)
  have HCn := Lib.hid hc1
  have hbz : Below w1.heap.size w1 ((w1.alloc (.cells #[.int .i64 (last + 1), .slice oo1 op.length oc1, .slice ro1 n1 rc1] 30)).alloc (.cells #[.int .i64 (last + 1)] 3)) := ((Below.refl w1.heap.size w1).alloc (Nat.le_refl _) _).alloc (by simp) _
  have hsr := src_one (w1.alloc (.cells #[.int .i64 (last + 1), .slice oo1 op.length oc1, .slice ro1 n1 rc1] 30)) (.int .i64 (last + 1)) 3
  rw [World.size_alloc] at hsr
  have HSr := Lib.hid hsr
  have HM := Lib.hid (hM1.below hbz)
  have HY := Lib.hid ((B3.new w1 (.int .i64 (last + 1)) (.slice oo1 op.length oc1) (.slice ro1 n1 rc1) 30).alloc (.cells #[.int .i64 (last + 1)] 3))
  have HNo := Lib.hid (MNo.far hM1 (X := w1.heap.size) (.inr (Nat.le_refl _)))
  have HX1' := Lib.hid ((HX1.out.below hb1).below hbz)
  have HB := Lib.hid ((HB0.out.trans (hb1.mono HB0.out.size)).trans (hbz.mono (Nat.le_trans HB0.out.size hb1.size)))
  have HLe : Hid (w.heap.size + 1 + 1 ≤ w1.heap.size) := Lib.hid (by have := HSz.out; have := hb1.size; omega)
  have hW : W.heap.size = w.heap.size + 1 + 1 := HSz.out
  rw [hW] at HM
  have HZz : Hid (((w1.alloc (.cells #[.int .i64 (last + 1), .slice oo1 op.length oc1, .slice ro1 n1 rc1] 30)).alloc (.cells #[.int .i64 (last + 1)] 3)).heap.size = w1.heap.size + 1 + 1) := Lib.hid (by simp)
  clear hi1 hi2 hc1 hM1 hb1 hbz HC HX0 HX1 HB0 HSz x0 x1 x2 hW hsr
  go_wp2_with (at_builtin; refine wpList_append_more _ rfl _ _ rfl Try.underlying22 hi hz0 hz1 hz2 rfl (by decide) (w.heap.size + 1 + 1) _ _ _ rfl HM.out.1 (some ⟨w1.heap.size + 1, 0, none⟩) 1 1 [.int .i64 (last + 1)] rfl HSr.out (ones_int [last + 1]) ?c3 ?c4 ?c5 ?_)
  case c3 => unfold maxLen; omega
  case c4 => omega
  case c5 => have := HZz.out; have := HLe.out; omega
  generalize (w1.alloc (.cells #[.int .i64 (last + 1), .slice oo1 op.length oc1, .slice ro1 n1 rc1] 30)).alloc (.cells #[.int .i64 (last + 1)] 3) = Wb at HSr HM HY HX1' HB HZz
  intro v' w4 hown' hgrow hv'
  obtain ⟨o', c', rfl⟩ := own_slice hown'
  simp only [ob_is] at hgrow hv'
  rw [← HZz.out] at hv'
  have hlen : (op ++ [last + 1]).length = op.length + 1 := by simp
  have hmap : (op ++ [last + 1]).map (Value.int .i64) = op.map (Value.int .i64) ++ [.int .i64 (last + 1)] := by simp
  rw [← hlen, ← hmap] at hown'
  have hno1 : ob oo1 ≠ some (w.heap.size + 1) := fun e => by have := own_ob HM.out.1 _ e; omega
  have hX5 := HX1'.out.apart hgrow hno1
  have hY5 := HY.out.apart hgrow HNo.out.1
  have hM5 := HM.out.more hgrow hown' hv'
  have hN5 : MNo w1.heap.size o' ro1 n1 g1 := ⟨by
    rcases hv' with e | e
    · rw [e]; exact HNo.out.1
    · rw [e, HZz.out]; intro e2; injection e2 with e2; omega, HNo.out.2⟩
  have hB5 := HB.out.grown hgrow (by have := HZz.out; have := HLe.out; omega) (fun q hq => by have := own_ob HM.out.1 q hq; omega)
  have HE : Hid (∀ (a b c : Nat) (x y z : Value), MkEnd (last + 1) (op ++ [last + 1]) (conL n g) w (.agg #[.int .i64 (last + 1), .slice o' (op.length + 1) c', .slice ro1 n1 rc1]) ((((w4.setCell ⟨w1.heap.size, 1, none⟩ (.slice o' (op.length + 1) c')).setCell ⟨w.heap.size + 1, a, none⟩ x).setCell ⟨w.heap.size + 1, b, none⟩ y).setCell ⟨w.heap.size + 1, c, none⟩ z)) := Lib.hid (fun a b c x y z => by
    have hMw : MwEnd (last + 1) (op ++ [last + 1]) (conL n g) w (.agg #[.int .i64 (last + 1), .slice o' (op.length + 1) c', .slice ro1 n1 rc1]) ((((w4.setCell ⟨w1.heap.size, 1, none⟩ (.slice o' (op.length + 1) c')).setCell ⟨w.heap.size + 1, a, none⟩ x).setCell ⟨w.heap.size + 1, b, none⟩ y).setCell ⟨w.heap.size + 1, c, none⟩ z) :=
      ⟨_, c', _, _, n1, g1, by rw [hlen], HCn.out, fun x hx => by
          rcases List.mem_append.1 hx with h | h
          · exact HIn.out.1 x h
          · rw [List.mem_singleton] at h; subst h; unfold In64; omega, HIn.out.2,
        ((((hM5.put hN5 _).set (by omega) x).set (by omega) y).set (by omega) z).lower (by omega),
        (hB5.setCell (by show w.heap.size ≤ w1.heap.size; have := HLe.out; omega) _).trans ((only_set3 _ a b c x y z).below (B := w.heap.size) (fun i _ hi => by omega) (hB5.setCell (by show w.heap.size ≤ w1.heap.size; have := HLe.out; omega) _).size)⟩
    exact hMw.mk)
  have hY6 := hY5.set1 (.slice o' (op.length + 1) c')
  have hX6 := hX5.other (p := ⟨w1.heap.size, 1, none⟩) (by show w.heap.size + 1 ≠ w1.heap.size; have := HLe.out; omega) (.slice o' (op.length + 1) c')
  obtain ⟨y0, y1, y2⟩ := hY5.cells
  have f1 := hY5.free 1
  obtain ⟨z0, z1, z2⟩ := hY6.cells
  have hne : w1.heap.size ≠ w.heap.size + 1 := by have := HLe.out; omega
  have g0 := hX6.free 0; have g1' := hX6.free 1; have g2 := hX6.free 2
  obtain ⟨v0, v1, v2⟩ := hX6.cells
  clear hown' hgrow hv' hX5 hM5 hN5 hB5 hY5 HM HY HX1' HB HSr HIn HCn HNo
  go_upto_region 4 with fail
  generalize w4.setCell ⟨w1.heap.size, 1, none⟩ (.slice o' (op.length + 1) c') = w5 at HE hY6 hX6 z0 z1 z2 g0 g1' g2 v0 v1 v2 ⊢
  clear y0 y1 y2 f1 hY6 hX6 hno1 hlen hmap HZz
  go_region_with (fail)
  all_goals
    go_wp2
    exact bodyPost_ret (v := .tuple #[.agg #[.int .i64 (last + 1), .slice o' (op.length + 1) c', .slice ro1 n1 rc1], .int .i64 (last + 1)]) (by simp [results, Try.results45, go_sem, v0, v1, v2]) rfl ⟨_, rfl, (HE.out _ _ _ _ _ _).drew⟩

set_option maxHeartbeats 4000000 in
set_option maxRecDepth 100000 in
theorem beginM (last : Int) (oo : Option Addr) (oc : Nat) (op : List Int) (ro : Option Addr) (rc n : Nat) (g : Nat → Vw) (hp : op.length ≤ 1048576) (hn : n ≤ 1048576) (hm : ∀ k, k < n → (g k).xs.length ≤ 1048576) (w : World) (h : MH w w.heap.size oo op ro n g) :
    Calls Try.prog 16 #[.agg #[.int .i64 last, .slice oo op.length oc, .slice ro n rc]] w (MnEnd (begL last op (conL n g)) (begO last op (conL n g)) (begC last op (conL n g)) (begL last op (conL n g)) (begB last op (conL n g)) w) := by
  have hb0 := ((Below.refl w.heap.size w).alloc (Nat.le_refl _) (.cells #[.int .i64 last, .slice oo op.length oc, .slice ro n rc] 30)).alloc (by simp) (.cells #[.int .i64 0, .slice none 0 0, .slice none 0 0] 30)
  have HX0 := Lib.hid ((B3.new w (.int .i64 last) (.slice oo op.length oc) (.slice ro n rc) 30).alloc (.cells #[.int .i64 0, .slice none 0 0, .slice none 0 0] 30))
  have HX1 := Lib.hid (B3.new (w.alloc (.cells #[.int .i64 last, .slice oo op.length oc, .slice ro n rc] 30)) (.int .i64 0) (.slice none 0 0) (.slice none 0 0) 30)
  rw [World.size_alloc] at HX1
  have HB0 := Lib.hid hb0
  have H0 := Lib.hid (h.below hb0.size hb0)
  have HC := Lib.hid (goodL last oo oc op ro rc n g hp hn hm _ H0.out)
  have HSz : Hid (((w.alloc (.cells #[.int .i64 last, .slice oo op.length oc, .slice ro n rc] 30)).alloc (.cells #[.int .i64 0, .slice none 0 0, .slice none 0 0] 30)).heap.size = w.heap.size + 1 + 1) := Lib.hid (by simp)
  have HBg := Lib.hid (fun hl h8 W hW => beg9M last oo oc op ro rc n g hl h8 hn hm W hW)
  obtain ⟨cs, hcs⟩ : ∃ cs, conL n g = cs := ⟨_, rfl⟩
  rw [hcs] at HC HBg ⊢
  clear h hb0 hm
  go_enter Try.func16, Try.ntmps16
  go_wp2_with fail
  generalize (w.alloc (.cells #[.int .i64 last, .slice oo op.length oc, .slice ro n rc] 30)).alloc (.cells #[.int .i64 0, .slice none 0 0, .slice none 0 0] 30) = W at HB0 HX0 HX1 H0 HC HSz ⊢
  obtain ⟨x0, x1, x2⟩ := HX0.out.cells
  go_wp2_with fail
  refine HC.out.mono ?_
  rintro e w1 ⟨rfl, hb1⟩
  have HB1 := Lib.hid (HB0.out.trans (hb1.mono HB0.out.size))
  have HSz1 := Lib.hid hb1.size
  have HXa := Lib.hid (HX0.out.below hb1)
  have HXb := Lib.hid (HX1.out.below hb1)
  have H1 := Lib.hid (H0.out.below hb1.size hb1)
  clear hb1 HC HB0 HX0 HX1 H0 x0 x1 x2
  obtain ⟨x0, x1, x2⟩ := HXa.out.cells
  obtain ⟨y0, y1, y2⟩ := HXb.out.cells
  have f0 := HXb.out.free 0; have f1 := HXb.out.free 1; have f2 := HXb.out.free 2
  have HZ : Hid (begB last op cs = false → ∀ (a b c : Nat) (x y z : Value), MnEnd (begL last op cs) (begO last op cs) (begC last op cs) (begL last op cs) (begB last op cs) w (.returned (.tuple #[.agg #[.int .i64 0, .slice none 0 0, .slice none 0 0], .int .i64 0, .bool false])) (((w1.setCell ⟨w.heap.size + 1, a, none⟩ x).setCell ⟨w.heap.size + 1, b, none⟩ y).setCell ⟨w.heap.size + 1, c, none⟩ z)) := Lib.hid (fun hb a b c x y z =>
    mn_no hb (HB1.out.trans ((only_set3 w1 a b c x y z).below (B := w.heap.size) (fun i _ hi => by omega) HB1.out.size)))
  by_cases hgm : goodMk last op cs = true
  · have hG := goodMk_is hgm
    have hl := hG.1.1
    have h8' : op.length ≤ 8 := hG.1.2.1
    have HGm := Lib.hid hgm
    rw [hgm]
    clear hG
    by_cases h8 : op.length = 8
    · have HZ' := Lib.hid (HZ.out (begB_8 h8))
      have e8 : ((op.length : Int) == 8) = true := by rw [h8]; rfl
      go_wp2
      exact bodyPost_ret (v := .tuple #[.agg #[.int .i64 0, .slice none 0 0, .slice none 0 0], .int .i64 0, .bool false]) (by simp [results, Try.results16, go_sem, y0, y1, y2]) rfl (HZ'.out _ _ _ _ _ _)
    · have e8 : ((op.length : Int) == 8) = false := by simp; omega
      by_cases hlm : last = 100000
      · have HZ' := Lib.hid (HZ.out (begB_last hlm))
        have el : (last == 100000) = true := by rw [hlm]; rfl
        go_wp2
        exact bodyPost_ret (v := .tuple #[.agg #[.int .i64 0, .slice none 0 0, .slice none 0 0], .int .i64 0, .bool false]) (by simp [results, Try.results16, go_sem, y0, y1, y2]) rfl (HZ'.out _ _ _ _ _ _)
      · have el : (last == 100000) = false := by simp; omega
        have hbt := begB_of HGm.out h8 hlm
        have HBt := Lib.hid hbt
        have HBgH := Lib.hid (HBg.out hl (by omega) _ H1.out)
        clear HZ hbt HBg
        go_wp2_with fail
        refine HBgH.out.mono ?_
        rintro e w2 ⟨v, rfl, hv⟩
        have hlen : (op ++ [last + 1]).length = op.length + 1 := by simp
        have hv0 := hv
        obtain ⟨oo2, oc2, ro2, rc2, n2, g2, rfl, _, _, _, hb2⟩ := hv
        rw [hlen] at hv0
        clear x0 x1 x2 y0 y1 y2 f0 f1 f2
        have hba := (Below.refl w2.heap.size w2).alloc (Nat.le_refl _) (.cells #[.int .i64 (last + 1), .slice oo2 (op.length + 1) oc2, .slice ro2 n2 rc2] 30)
        have HY := Lib.hid (B3.new w2 (.int .i64 (last + 1)) (.slice oo2 (op.length + 1) oc2) (.slice ro2 n2 rc2) 30)
        have hXb := (HXb.out.below hb2).below hba
        have HE : Hid (∀ (a b c : Nat) (x y z : Value), MnEnd (begL last op cs) (begO last op cs) (begC last op cs) (begL last op cs) (begB last op cs) w (.returned (.tuple #[.agg #[.int .i64 (last + 1), .slice oo2 (op.length + 1) oc2, .slice ro2 n2 rc2], .int .i64 (last + 1), .bool true])) ((((w2.alloc (.cells #[.int .i64 (last + 1), .slice oo2 (op.length + 1) oc2, .slice ro2 n2 rc2] 30)).setCell ⟨w.heap.size + 1, a, none⟩ x).setCell ⟨w.heap.size + 1, b, none⟩ y).setCell ⟨w.heap.size + 1, c, none⟩ z)) := Lib.hid (fun a b c x y z =>
          mn_yes HBt.out (hv0.only HB1.out ((Only.of_below _ hba).trans ((only_set3 _ a b c x y z).mono (fun i _ hi => by have := HXb.out.lt; subst hi; exact ⟨by omega, by omega⟩)))))
        obtain ⟨y0, y1, y2⟩ := hXb.cells
        have f0 := hXb.free 0; have f1 := hXb.free 1; have f2 := hXb.free 2
        obtain ⟨z0, z1, z2⟩ := HY.out.cells
        have hne : w2.heap.size ≠ w.heap.size + 1 := by have := HXb.out.lt; have := hb2.size; omega
        clear hv0 hb2 hba hXb HXb HXa H1 HB1 HSz1 HBgH
        go_wp2_with fail
        trace_state
        generalize w2.alloc (.cells #[.int .i64 (last + 1), .slice oo2 (op.length + 1) oc2, .slice ro2 n2 rc2] 30) = w3 at HE y0 y1 y2 f0 f1 f2 z0 z1 z2 HY ⊢
        generalize op.length + 1 = m at HE z1 HY ⊢
        go_wp2
        trace_state
        exact bodyPost_ret (v := .tuple #[.agg #[.int .i64 (last + 1), .slice oo2 m oc2, .slice ro2 n2 rc2], .int .i64 (last + 1), .bool true]) (by simp [results, Try.results16, go_sem, y0, y1, y2]) rfl (HE.out _ _ _ _ _ _)
  · have hgf : goodMk last op cs = false := by simpa using hgm
    have HZ' := Lib.hid (HZ.out (begB_bad hgf))
    rw [hgf]
    clear HZ hgf hgm
    go_wp2
    exact bodyPost_ret (v := .tuple #[.agg #[.int .i64 0, .slice none 0 0, .slice none 0 0], .int .i64 0, .bool false]) (by simp [results, Try.results16, go_sem, y0, y1, y2]) rfl (HZ'.out _ _ _ _ _ _)
end Go.Proofs.Ytabkjjbhnapgpaa
