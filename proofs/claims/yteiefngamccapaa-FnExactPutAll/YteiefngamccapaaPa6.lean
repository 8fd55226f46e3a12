/- Contract of PutAll in the model, over this seat's translation. -/
import Derived.Test.YteiefngamccapaaPs6
import Derived.Test.YteiefngamccapaaPaMath
namespace Go.Proofs.Yteiefngamccapaa
open Go.RowKit Go.Deep

/-- What putting samples into a series answers. -/
def P4End (cs : List Chk) (codes : List Int) (f : Int) (b : Bool) (w : World) (e : Ending) (w' : World) : Prop :=
  (∃ (ao : Option Addr) (cp : Nat) (bo : Option Addr) (bp : Nat), e = .returned (.tuple #[.agg #[.slice ao cs.length cp, .int .i64 f], .slice bo codes.length bp, .bool b]) ∧ w'.ownsRow w.heap.size 85 4 (.slice ao cs.length cp) cs.length (cellsG cC cs) ∧
    w'.ownsRow w.heap.size 3 1 (.slice bo codes.length bp) codes.length (codes.map (Value.int .i64)) ∧ ∀ g, (Value.slice ao cs.length cp).ownBlock = some g → (Value.slice bo codes.length bp).ownBlock ≠ some g) ∧ Below w.heap.size w w'
theorem p4_none {w w' : World} (h : Below w.heap.size w w') : P4End [] [] 0 false w (.returned (.tuple #[.agg #[.slice none 0 0, .int .i64 0], .slice none 0 0, .bool false])) w' := ⟨⟨none, 0, none, 0, rfl, World.ownsRow_nil _ _ _ _, World.ownsRow_nil _ _ _ _, fun g e => by cases e⟩, h⟩
theorem src_oneI (W : World) (v : Value) (t : TypeId) : SrcA 1 (W.alloc (.cells #[v] t)) (some ⟨W.heap.size, 0, none⟩) 1 [v] := by
  refine ⟨rfl, (fun h => by cases h), fun ad e j u hu => ?_⟩
  injection e with e
  subst e
  match j, hu with
  | 0, hu => simp at hu; subst hu; simp [Addr.add]
theorem Bt.put2 {w : World} {g : Nat} {a b a1 a2 : Value} (hx : Bt w g a b) : Bt ((w.setCell ⟨g, 0, none⟩ a1).setCell ⟨g, 1, none⟩ a2) g a1 a2 := by
  obtain ⟨t, h⟩ := hx
  exact ⟨t, by simp [World.setCell, Array.getElem?_modify, h]⟩
theorem own_apart2 {w w' : World} {base : Nat} {e : TypeId} {s n : Nat} {v : Value} {xs : List Value} {row : Option Nat} (h : w.ownsRow base e s v n xs) (hg : w.grownBy w' row) (hr : ∀ k, v.ownBlock = some k → row ≠ some k) : w'.ownsRow base e s v n xs := by
  refine h.kept hg ?_
  cases hv : v.ownBlock with
  | none => exact .inl rfl
  | some k => exact .inr (fun e => hr k hv e.symm)
/-- What the model's loop stands at behind k samples: the series in the box g7, the codes c. -/
def LmA (w : World) (B g7 : Nat) (q : List Chk) (fl : Int) (cds : List Int) (c : Value) (wr : World) : Prop :=
  (∃ o cp, Bt wr g7 (.slice o q.length cp) (.int .i64 fl) ∧ wr.ownsRow B 85 4 (.slice o q.length cp) q.length (cellsG cC q) ∧ ∀ g, (Value.slice o q.length cp).ownBlock = some g → c.ownBlock ≠ some g) ∧
    wr.ownsRow (g7 + 1) 3 1 c cds.length (cds.map (Value.int .i64)) ∧ Below w.heap.size w wr ∧ Bt wr (w.heap.size + 1) (.slice none 0 0) (.int .i64 0)

set_option maxHeartbeats 8000000 in
set_option maxRecDepth 100000 in
theorem paM (ao bo : Option Addr) (cap bp : Nat) (l : List Chk) (fl : Int) (xs : List Smp) (hn : l.length ≤ 1048576) (hxn : xs.length ≤ 1048576) (hF : FitC l 1048576) (hx : FitS xs) (w : World) (h : CRow w w.heap.size ao l) (hs : SRow w w.heap.size bo xs) :
    Calls Try.prog 25 #[.agg #[.slice ao l.length cap, .int .i64 fl], .slice bo xs.length bp] w (P4End (aaL l fl xs) (aaC l fl xs) (aaF l fl xs) (aaB l fl xs) w) := by
  have HB0 := Lib.hid (((Below.refl w.heap.size w).alloc (Nat.le_refl _) (.cells #[.slice ao l.length cap, .int .i64 fl] 29)).alloc (by simp) (.cells #[.slice none 0 0, .int .i64 0] 29))
  have HX0 := Lib.hid ((Bt.new w (.slice ao l.length cap) (.int .i64 fl) 29).alloc (.cells #[.slice none 0 0, .int .i64 0] 29))
  have HZ0 := Lib.hid (Bt.new (w.alloc (.cells #[.slice ao l.length cap, .int .i64 fl] 29)) (.slice none 0 0) (.int .i64 0) 29)
  simp only [World.size_alloc] at HZ0
  have HR0 := Lib.hid (GR.after h HB0.out)
  have HSw := Lib.hid hs
  have HC := Lib.hid (fun W hW => goodM ao cap l fl hn hF W hW)
  unfold GsEnd at HC
  clear h hs
  by_cases hg : gsB l fl = true
  case neg =>
    have hg : gsB l fl = false := by simpa using hg
    rw [hg] at HC
    obtain ⟨e1, e2, e3, e4⟩ := aa_no (l := xs) (.inl hg)
    rw [e1, e2, e3, e4]
    clear hg hF hx e1 e2 e3 e4
    go_enter Try.func25, Try.ntmps25
    go_wp2_with fail
    refine (HC.out _ HR0.out).mono ?_
    rintro e w1 ⟨rfl, hb1⟩
    have HB1 := Lib.hid (HB0.out.trans (hb1.mono HB0.out.size))
    obtain ⟨z0, z1, f0, f1⟩ := (HZ0.out.below hb1).cells
    clear hb1
    go_wp2
    exact bodyPost_ret (v := .tuple #[.agg #[.slice none 0 0, .int .i64 0], .slice none 0 0, .bool false]) (by simp [results, Try.results25, go_sem, z0, z1]) rfl (p4_none (set2_belowT HB1.out (by omega)))
  by_cases h60 : xs.length ≤ 60
  case neg =>
    obtain ⟨e1, e2, e3, e4⟩ := aa_no (cs := l) (fl := fl) (l := xs) (.inr (by omega))
    rw [hg] at HC
    rw [e1, e2, e3, e4]
    have h60' : (60 : Int) < (xs.length : Int) := by omega
    clear hg hF hx e1 e2 e3 e4
    go_enter Try.func25, Try.ntmps25
    go_wp2_with fail
    refine (HC.out _ HR0.out).mono ?_
    rintro e w1 ⟨rfl, hb1⟩
    have HB1 := Lib.hid (HB0.out.trans (hb1.mono HB0.out.size))
    obtain ⟨z0, z1, f0, f1⟩ := (HZ0.out.below hb1).cells
    clear hb1
    go_wp2
    exact bodyPost_ret (v := .tuple #[.agg #[.slice none 0 0, .int .i64 0], .slice none 0 0, .bool false]) (by simp [results, Try.results25, go_sem, z0, z1]) rfl (p4_none (set2_belowT HB1.out (by omega)))
  obtain ⟨e1, e2, e3, e4⟩ := aa_yes (cs := l) (fl := fl) (l := xs) hg h60
  rw [hg] at HC
  rw [e1, e2, e3, e4]
  have h60' : ¬ (60 : Int) < (xs.length : Int) := by omega
  have h6 := (gs_is hg).len
  have HOk := Lib.hid (fun k => paK_ok (fl := fl) hx (gs_ok hg) k)
  have HFx := Lib.hid hx
  have HOw := Lib.hid (fun W hW => own59 ao cap l fl hn W hW)
  obtain ⟨i0, hi, hz0, hz1, hz2⟩ := info_parts Try.info3
  clear hg hn hxn hF hx e1 e2 e3 e4
  go_enter Try.func25, Try.ntmps25
  go_wp2_with fail
  refine (HC.out _ HR0.out).mono ?_
  rintro e w1 ⟨rfl, hb1⟩
  have HB1 := Lib.hid (HB0.out.trans (hb1.mono HB0.out.size))
  have HX1 := Lib.hid (HX0.out.below hb1); have HZ1 := Lib.hid (HZ0.out.below hb1)
  have HR1 := Lib.hid (GR.after HR0.out hb1)
  clear hb1 HB0 HX0 HZ0 HR0 HC
  obtain ⟨x0, x1, _⟩ := HX1.out.cells
  go_wp2_with fail
  refine (HOw.out _ HR1.out).mono ?_
  rintro e w2 h2
  obtain ⟨o2, k2, rfl, hO2, _, hb2⟩ := made_ser h2
  have hzw : w.heap.size + 1 < w1.heap.size := HZ1.out.lt
  have hw12 : w1.heap.size ≤ w2.heap.size := hb2.size
  have hW2 := (Below.refl w2.heap.size w2).alloc (Nat.le_refl _) (.cells #[.slice o2 l.length k2, .int .i64 fl] 29)
  have hB3 := HB1.out.trans ((hb2.trans (hW2.mono hw12)).mono HB1.out.size)
  have HB3 := Lib.hid hB3
  have HL3 : Hid (LmA w w1.heap.size w2.heap.size (paK l fl xs 0) fl (pcK l fl xs 0) (.slice none 0 0) (w2.alloc (.cells #[.slice o2 l.length k2, .int .i64 fl] 29))) := Lib.hid ⟨⟨o2, k2, Bt.new w2 _ _ _, hO2.alloc _, fun g _ e => by cases e⟩, World.ownsRow_nil _ _ _ _, hB3, (HZ1.out.below hb2).below hW2⟩
  obtain ⟨W3, hW3⟩ : ∃ W, W = w2.alloc (.cells #[.slice o2 l.length k2, .int .i64 fl] 29) := ⟨_, rfl⟩
  rw [← hW3] at HB3 HL3
  clear hB3 hW2 hb2 h2 hO2 x0 x1 HX1 HR1 HZ1 HB1 HOw
  go_upto_region 5 with fail
  rw [← hW3]
  clear hW3
  go_wp2_with fail
  go_loopw [8, 26] (fun c i wr => ∃ k : Nat, k ≤ xs.length ∧ i = .int .i64 k ∧ Hid (LmA w w1.heap.size w2.heap.size (paK l fl xs k) fl (pcK l fl xs k) c wr) ∧ True) (fun _ i _ => xs.length - (intOf i).toNat)
  case atStart => exact ⟨0, Nat.zero_le _, rfl, HL3, trivial⟩
  case round =>
    obtain ⟨k, hk, rfl, hL, _⟩ := hrel
    by_cases hlt : k < xs.length
    · obtain ⟨⟨o, cp, hBt, hO, hD⟩, hCr, hBe, hZ⟩ := hL.out
      obtain ⟨b, off, hbo, hbl, c0, c1⟩ := (HSw.out.below hBe).one hlt
      have hok := HOk.out k
      have hn1 := paK_succ (cs := l) (fl := fl) hlt
      have hn2 := pcK_succ (cs := l) (fl := fl) hlt
      have hxx : FitS [xs[k]] := fun y hy => by rw [List.mem_singleton.1 hy]; exact HFx.out _ (List.getElem_mem hlt)
      have hcl := pcK_len (cs := l) (fl := fl) hk
      generalize xs[k] = x at c0 c1 hn1 hn2 hxx
      obtain ⟨t, v⟩ := x
      simp only at c0 c1
      obtain ⟨bc, kc, rfl⟩ := own_slice hCr
      rw [hcl] at hCr hD ⊢
      have HN1 := Lib.hid hn1; have HN2 := Lib.hid hn2
      generalize paK l fl xs k = q at HN1 HN2 hok hBt hO hD
      generalize pcK l fl xs k = cds at HN2 hCr hcl
      have HPu := Lib.hid (fun W hW => putM o cp q fl t v hok.len hok.fit hok.all hxx W hW)
      unfold PuEnd at HPu
      generalize ptL q fl (t, v) = y at HPu HN1
      generalize cdF q fl (t, v) = cd at HPu HN2
      have hg7 : w2.heap.size < wr.heap.size := hBt.lt
      have hW4 := (Below.refl wr.heap.size wr).alloc (Nat.le_refl _) (.cells #[.int .i64 t, .float .f64 v] 42)
      have HBt := Lib.hid (hBt.below hW4); have HZ := Lib.hid (hZ.below hW4); have HBe := Lib.hid (hBe.trans (hW4.mono hBe.size))
      have HCr := Lib.hid (own_below hCr hW4)
      have HQr := Lib.hid (GR.after (GR.of_own cC_len hO) hW4)
      have HCl := Lib.hid (fun g e => (hCr.lt g e).2)
      have HY4 := Lib.hid (Bt.new wr (.int .i64 t) (.float .f64 v) 42)
      have hst := @run_store_float Try.prog
      subst hbo
      obtain ⟨p0, p1, _⟩ := hBt.cells
      clear hL hBe hZ hCr hO hD hn1 hn2 hok hxx hW4 hBt
      go_wp2_with fail
      obtain ⟨W4, hW4e⟩ : ∃ W, W = wr.alloc (.cells #[.int .i64 t, .float .f64 v] 42) := ⟨_, rfl⟩
      have hW4s : wr.heap.size < W4.heap.size := by rw [hW4e]; simp
      rw [← hW4e] at HBt HZ HBe HCr HQr HY4 ⊢
      clear hW4e c0 c1 p0 p1
      refine (HPu.out _ HQr.out).mono ?_
      rintro e w5 ⟨⟨o5, k5, rfl, hO5⟩, hb5⟩
      have hb5s := hb5.size
      have hW6 := (Below.refl w5.heap.size w5).alloc (Nat.le_refl _) (.cells #[.slice o5 y.length k5, .int .i64 fl] 29)
      have hb6 := hb5.trans (hW6.mono hb5.size)
      have HO6 := Lib.hid (hO5.alloc (.cells #[.slice o5 y.length k5, .int .i64 fl] 29))
      have HBt6 := Lib.hid (HBt.out.below hb6); have HZ6 := Lib.hid (HZ.out.below hb6); have HBe6 := Lib.hid (HBe.out.trans (hb6.mono HBe.out.size)); have HCr6 := Lib.hid (own_below HCr.out hb6)
      have HQ6 := Lib.hid (Bt.new w5 (.slice o5 y.length k5) (.int .i64 fl) 29)
      have hne : w5.heap.size ≠ w2.heap.size := by omega
      obtain ⟨W6, hW6e⟩ : ∃ W, W = w5.alloc (.cells #[.slice o5 y.length k5, .int .i64 fl] 29) := ⟨_, rfl⟩
      rw [← hW6e] at HO6 HBt6 HZ6 HBe6 HCr6 HQ6
      have hx6 := HBt6.out.cells
      rw [hW6e] at hx6
      obtain ⟨p0, p1, pf0, pf1⟩ := hx6
      have HO7 := Lib.hid (own_set (g := w2.heap.size) (i := 1) (u := .int .i64 fl) (own_set (g := w2.heap.size) (i := 0) (u := .slice o5 y.length k5) HO6.out (by omega)) (by omega))
      have HC7 := Lib.hid (own_set (g := w2.heap.size) (i := 1) (u := .int .i64 fl) (own_set (g := w2.heap.size) (i := 0) (u := .slice o5 y.length k5) HCr6.out (by omega)) (by omega))
      have HBt7 := Lib.hid (Bt.put2 (a1 := .slice o5 y.length k5) (a2 := .int .i64 fl) HBt6.out)
      have HZ7 := Lib.hid ((HZ6.out.far1 (p := w2.heap.size) (i := 0) (v := .slice o5 y.length k5) (by omega)).far1 (p := w2.heap.size) (i := 1) (v := .int .i64 fl) (by omega))
      have HBe7 := Lib.hid (set2_belowT (a := .slice o5 y.length k5) (b := .int .i64 fl) (g := w2.heap.size) HBe6.out (by omega))
      have HOl := Lib.hid (fun g e => hO5.lt g e)
      clear hb5 hb6 hW6 hO5 HBt HZ HBe HCr HQr HY4 HO6 HBt6 HZ6 HBe6 HCr6 HQ6 HPu
      go_upto_region 10 with fail
      have hW6s : w5.heap.size < W6.heap.size := by rw [hW6e]; simp
      rw [← hW6e]
      clear hW6e p0 p1 pf0 pf1
      obtain ⟨W7, hW7⟩ : ∃ W, W = (W6.setCell ⟨w2.heap.size, 0, none⟩ (.slice o5 y.length k5)).setCell ⟨w2.heap.size, 1, none⟩ (.int .i64 fl) := ⟨_, rfl⟩
      have hs7 : w5.heap.size < W7.heap.size := by rw [hW7]; simp; omega
      rw [← hW7] at HO7 HC7 HBt7 HZ7 HBe7 ⊢
      clear hW7
      go_wp2_with ((at_builtin; refine wpList_append_more _ rfl _ _ rfl Try.underlying47 hi hz0 hz1 hz2 rfl (by decide) (w2.heap.size + 1) _ _ _ rfl (HC7.out.alloc _) (some ⟨W7.heap.size, 0, none⟩) 1 1 [.int .i64 cd] rfl (src_oneI _ _ _) ?k3 ?k4 ?k5 ?k6 ?_))
      case k3 => intro u hu; rw [List.mem_singleton.1 hu]; rfl
      case k4 => unfold maxLen; omega
      case k5 => omega
      case k6 => simp; omega
      intro v' w8 hown' hgrow hv'
      obtain ⟨o8, c8, hvs⟩ := own_slice hown'
      subst hvs
      have hCb : ∀ g, (Value.slice bc k kc).ownBlock = some g → w2.heap.size + 1 ≤ g ∧ g < wr.heap.size := fun g e => ⟨(HC7.out.lt g e).1, HCl.out g e⟩
      have HL8 : Hid (LmA w w1.heap.size w2.heap.size (paK l fl xs (k + 1)) fl (pcK l fl xs (k + 1)) (.slice o8 (k + 1) c8) w8) := Lib.hid (by
        rw [HN1.out, HN2.out]
        refine ⟨⟨o5, k5, (HBt7.out.alloc (.cells #[.int .i64 cd] 3)).apart hgrow (fun e => by have := (hCb _ e).1; omega), ?_, fun g e h => ?_⟩, ?_, ?_, ?_⟩
        · exact own_lower (own_apart2 (HO7.out.alloc (.cells #[.int .i64 cd] 3)) hgrow (fun g e h => by have := (hCb _ h).2; have := (HOl.out g e).1; omega)) (by have := HBe7.out.size; omega)
        · rcases hv' with h' | h'
          · rw [h] at h'; have := (hCb _ h'.symm).2; have := (HOl.out g e).1; omega
          · rw [h] at h'; injection h' with h'; (try simp at h'); have := (HOl.out g e).2; omega
        · rw [List.length_append, hcl, List.map_append]; exact hown'
        · exact (HBe7.out.alloc HBe7.out.size (.cells #[.int .i64 cd] 3)).grown hgrow (by simp; have := HBe7.out.size; omega) (fun g e => by have := (hCb g e).1; omega)
        · exact (HZ7.out.alloc (.cells #[.int .i64 cd] 3)).apart hgrow (fun e => by have := (hCb _ e).1; omega))
      clear hown' hgrow hv' hCb HO7 HC7 HBt7 HZ7 HBe7 HOl HCl
      go_wp2
      go_roundw
      case rel => exact ⟨k + 1, by omega, by go_num, HL8, trivial⟩
      case measure => simp [intOf]; omega
    · obtain rfl : k = xs.length := by omega
      obtain ⟨⟨o, cp, hBt, hO, hD⟩, hCr, hBe, hZ⟩ := hL.out
      obtain ⟨bc, kc, rfl⟩ := own_slice hCr
      have hcl := pcK_len (cs := l) (fl := fl) hk
      have HO := Lib.hid hO; have HD := Lib.hid hD; have HCr := Lib.hid hCr; have HBe := Lib.hid hBe
      obtain ⟨p0, p1, _⟩ := hBt.cells
      obtain ⟨z0, z1, zf0, zf1⟩ := hZ.cells
      have hne : w2.heap.size ≠ w.heap.size + 1 := by omega
      clear hL hBt hO hD hCr hBe hZ
      go_wp2
      refine bodyPost_ret (v := .tuple #[.agg #[.slice o (paK l fl xs xs.length).length cp, .int .i64 fl], .slice bc (pcK l fl xs xs.length).length kc, .bool true]) (by simp [results, Try.results25, go_sem, z0, z1]) rfl ⟨⟨o, cp, bc, kc, rfl, ?_, ?_, HD.out⟩, set2_belowT HBe.out (by omega)⟩
      · exact own_lower (own_set (own_set HO.out (by omega)) (by omega)) (by omega)
      · exact own_lower (own_set (own_set HCr.out (by omega)) (by omega)) (by omega)
end Go.Proofs.Yteiefngamccapaa
