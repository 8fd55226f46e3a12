/- Contract of PutAll in the program, over this seat's translation. -/
import Derived.Test.YteiefngamccapaaPa6
import Derived.Test.YteiefngamccapaaPv
namespace Go.Proofs.Yteiefngamccapaa
open Go.RowKit Go.Deep

theorem own_of_block {w w' : World} {base : Nat} {e : TypeId} {s n : Nat} {v : Value} {xs : List Value} (h : w.ownsRow base e s v n xs) (hb : ∀ g, v.ownBlock = some g → w'.heap[g]? = w.heap[g]?) : w'.ownsRow base e s v n xs := by
  obtain ⟨h0, ⟨h1, h2⟩ | ⟨g, cap, cur, rfl, hge, hh, hr⟩⟩ := h
  · exact ⟨h0, .inl ⟨h1, h2⟩⟩
  · exact ⟨h0, .inr ⟨g, cap, cur, rfl, hge, (hb g rfl).trans hh, hr⟩⟩
/-- What the program's loop stands at behind k samples: the series behind the pointer p, the codes c. -/
def LiA (w : World) (base p : Nat) (q : List Chk) (fl : Int) (cds : List Int) (c : Value) (wr : World) : Prop :=
  (∃ o cp, Bt wr p (.slice o q.length cp) (.int .i64 fl) ∧ wr.ownsRow base 85 4 (.slice o q.length cp) q.length (cellsG cC q) ∧ (Value.slice o q.length cp).ownBlock ≠ some p ∧ ∀ g, (Value.slice o q.length cp).ownBlock = some g → c.ownBlock ≠ some g) ∧
    wr.ownsRow base 3 1 c cds.length (cds.map (Value.int .i64)) ∧ c.ownBlock ≠ some p ∧ Below w.heap.size w wr ∧ Bt wr (w.heap.size + 1) (.slice none 0 0) (.int .i64 0)

set_option maxHeartbeats 8000000 in
set_option maxRecDepth 100000 in
theorem paI (ao bo : Option Addr) (cap bp : Nat) (l : List Chk) (fl : Int) (xs : List Smp) (hn : l.length ≤ 1048576) (hxn : xs.length ≤ 1048576) (hF : FitC l 1048576) (hx : FitS xs) (w : World) (h : CRow w w.heap.size ao l) (hs : SRow w w.heap.size bo xs) :
    Calls Try.prog 27 #[.agg #[.slice ao l.length cap, .int .i64 fl], .slice bo xs.length bp] w (P4End (aaL l fl xs) (aaC l fl xs) (aaF l fl xs) (aaB l fl xs) w) := by
  have HB0 := Lib.hid (((Below.refl w.heap.size w).alloc (Nat.le_refl _) (.cells #[.slice ao l.length cap, .int .i64 fl] 29)).alloc (by simp) (.cells #[.slice none 0 0, .int .i64 0] 29))
  have HX0 := Lib.hid ((Bt.new w (.slice ao l.length cap) (.int .i64 fl) 29).alloc (.cells #[.slice none 0 0, .int .i64 0] 29))
  have HZ0 := Lib.hid (Bt.new (w.alloc (.cells #[.slice ao l.length cap, .int .i64 fl] 29)) (.slice none 0 0) (.int .i64 0) 29)
  simp only [World.size_alloc] at HZ0
  have HR0 := Lib.hid (GR.after h HB0.out)
  have HSw := Lib.hid hs
  clear h hs
  by_cases hg : gsB l fl = true
  case neg =>
    have hg : gsB l fl = false := by simpa using hg
    have HC := Lib.hid (fun W hW => copy_no ao cap l fl hn hF hg W hW)
    obtain ⟨e1, e2, e3, e4⟩ := aa_no (l := xs) (.inl hg)
    rw [e1, e2, e3, e4]
    clear hg hF hx e1 e2 e3 e4
    go_enter Try.func27, Try.ntmps27
    go_wp2_with fail
    refine (HC.out _ HR0.out).mono ?_
    rintro e w1 ⟨rfl, hb1⟩
    have HB1 := Lib.hid (HB0.out.trans (hb1.mono HB0.out.size))
    obtain ⟨z0, z1, f0, f1⟩ := (HZ0.out.below hb1).cells
    clear hb1
    go_wp2
    exact bodyPost_ret (v := .tuple #[.agg #[.slice none 0 0, .int .i64 0], .slice none 0 0, .bool false]) (by simp [results, Try.results27, go_sem, z0, z1]) rfl (p4_none (set2_belowT HB1.out (by omega)))
  by_cases h60 : xs.length ≤ 60
  case neg =>
    obtain ⟨e1, e2, e3, e4⟩ := aa_no (cs := l) (fl := fl) (l := xs) (.inr (by omega))
    have HC := Lib.hid (fun W hW => copy_yes ao cap l fl hn hF hg W hW)
    rw [e1, e2, e3, e4]
    have h60' : (60 : Int) < (xs.length : Int) := by omega
    clear hg hF hx e1 e2 e3 e4
    go_enter Try.func27, Try.ntmps27
    go_wp2_with fail
    refine (HC.out _ HR0.out).mono ?_
    rintro e w1 ⟨p, vv, rfl, _, _, hpl, _, hb1⟩
    have HB1 := Lib.hid (HB0.out.trans (hb1.mono HB0.out.size))
    obtain ⟨z0, z1, f0, f1⟩ := (HZ0.out.below hb1).cells
    clear hb1
    go_wp2
    exact bodyPost_ret (v := .tuple #[.agg #[.slice none 0 0, .int .i64 0], .slice none 0 0, .bool false]) (by simp [results, Try.results27, go_sem, z0, z1]) rfl (p4_none (set2_belowT HB1.out (by omega)))
  obtain ⟨e1, e2, e3, e4⟩ := aa_yes (cs := l) (fl := fl) (l := xs) hg h60
  rw [e1, e2, e3, e4]
  have HC := Lib.hid (fun W hW => copy_yes ao cap l fl hn hF hg W hW)
  have h60' : ¬ (60 : Int) < (xs.length : Int) := by omega
  have h6 := (gs_is hg).len
  have HOk := Lib.hid (fun k => paK_ok (fl := fl) hx (gs_ok hg) k)
  have HFx := Lib.hid hx
  obtain ⟨i0, hi, hz0, hz1, hz2⟩ := info_parts Try.info3
  clear hg hn hxn hF hx e1 e2 e3 e4
  go_enter Try.func27, Try.ntmps27
  go_wp2_with fail
  refine (HC.out _ HR0.out).mono ?_
  rintro e w1 ⟨p, vv, rfl, hP, hO, hpl, hvp, hb1⟩
  obtain ⟨o, c, rfl⟩ := own_slice hO
  simp only [World.size_alloc] at hO hpl
  have HZ1 := HZ0.out.below hb1
  have hB1 := HB0.out.trans (hb1.mono HB0.out.size)
  have hzw : w.heap.size + 1 < w1.heap.size := HZ1.lt
  have HL1 : Hid (LiA w (w.heap.size + 1 + 1) p (paK l fl xs 0) fl (pcK l fl xs 0) (.slice none 0 0) w1) := Lib.hid ⟨⟨o, c, hP, hO, hvp, fun g _ e => by cases e⟩, World.ownsRow_nil _ _ _ _, (fun e => by cases e), hB1, HZ1⟩
  clear hP hO hvp hb1 HB0 HX0 HZ0 HR0 HC HZ1 hB1
  go_upto_region 5 with fail
  go_wp2_with fail
  go_loopw [9, 27] (fun c i wr => ∃ k : Nat, k ≤ xs.length ∧ i = .int .i64 k ∧ Hid (LiA w (w.heap.size + 1 + 1) p (paK l fl xs k) fl (pcK l fl xs k) c wr) ∧ True) (fun _ i _ => xs.length - (intOf i).toNat)
  case atStart => exact ⟨0, Nat.zero_le _, rfl, HL1, trivial⟩
  case round =>
    obtain ⟨k, hk, rfl, hL, _⟩ := hrel
    by_cases hlt : k < xs.length
    · obtain ⟨⟨o, cp, hBt, hO, hV, hD⟩, hCr, hCp, hBe, hZ⟩ := hL.out
      obtain ⟨b, off, hbo, hbl, c0, c1⟩ := (HSw.out.below hBe).one hlt
      have hok := HOk.out k
      have hn1 := paK_succ (cs := l) (fl := fl) hlt
      have hn2 := pcK_succ (cs := l) (fl := fl) hlt
      have hxx : FitS [xs[k]] := fun y hy => by rw [List.mem_singleton.1 hy]; exact HFx.out _ (List.getElem_mem hlt)
      have hcl := pcK_len (cs := l) (fl := fl) hk
      generalize xs[k] = x at c0 c1 hn1 hn2 hxx
      obtain ⟨t, v⟩ := x
      simp only at c0 c1
      obtain ⟨bc, kc, rfl⟩ := own_slice hCr
      rw [hcl] at hCr hD hCp ⊢
      have HN1 := Lib.hid hn1; have HN2 := Lib.hid hn2
      generalize paK l fl xs k = q at HN1 HN2 hok hBt hO hD hV
      generalize pcK l fl xs k = cds at HN2 hCr hcl
      have HPu := Lib.hid (fun W hbw h1 h2 h3 => putJ (w.heap.size + 1 + 1) p o cp q fl t v hok.len hok.fit hok.all hxx hpl W hbw h1 h2 h3)
      unfold PjEnd at HPu
      generalize ptL q fl (t, v) = y at HPu HN1
      generalize cdF q fl (t, v) = cd at HPu HN2
      have hzr : w.heap.size + 1 < wr.heap.size := hZ.lt
      have hpr : p < wr.heap.size := hBt.lt
      have hW4 := (Below.refl wr.heap.size wr).alloc (Nat.le_refl _) (.cells #[.int .i64 t, .float .f64 v] 42)
      have HBt := Lib.hid (hBt.below hW4); have HZ := Lib.hid (hZ.below hW4); have HBe := Lib.hid (hBe.trans (hW4.mono hBe.size))
      have HCr := Lib.hid (own_below hCr hW4); have HO := Lib.hid (own_below hO hW4)
      have HCl := Lib.hid (fun g e => (hCr.lt g e).2)
      have HD := Lib.hid hD; have HV := Lib.hid hV; have HCp := Lib.hid hCp
      have HY4 := Lib.hid (Bt.new wr (.int .i64 t) (.float .f64 v) 42)
      have hst := @run_store_float Try.prog
      subst hbo
      clear hL hBe hZ hCr hO hD hV hCp hn1 hn2 hok hxx hW4 hBt
      go_wp2_with fail
      obtain ⟨W4, hW4e⟩ : ∃ W, W = wr.alloc (.cells #[.int .i64 t, .float .f64 v] 42) := ⟨_, rfl⟩
      have hW4s : wr.heap.size < W4.heap.size := by rw [hW4e]; simp
      rw [← hW4e] at HBt HZ HBe HCr HO HY4 ⊢
      clear hW4e c0 c1
      refine (HPu.out _ (by omega) HBt.out HO.out HV.out).mono ?_
      rintro e w5 ⟨o5, k5, rfl, hO5, hP5, ⟨hv5, hnb, hK⟩, hb5⟩
      have hCb : ∀ g, (Value.slice bc k kc).ownBlock = some g → w.heap.size + 1 + 1 ≤ g ∧ g < wr.heap.size := fun g e => ⟨(HCr.out.lt g e).1, HCl.out g e⟩
      have hNC : ∀ g, (Value.slice o5 y.length k5).ownBlock = some g → (Value.slice bc k kc).ownBlock ≠ some g := fun g e h => by
        rcases hnb g e with h' | h'
        · exact HD.out g h' h
        · have := (hCb g h).2; omega
      have HC5 := Lib.hid (own_of_block (w' := w5) HCr.out (fun g e => hK.2 g (by have := (hCb g e).2; omega) (fun h => HCp.out (by rw [e, h])) (fun h => HD.out g h e)))
      have HZ5 : Hid (Bt w5 (w.heap.size + 1) (.slice none 0 0) (.int .i64 0)) := Lib.hid (by
        obtain ⟨tt, hh⟩ := HZ.out
        exact ⟨tt, (hb5.block _ (by omega)).trans hh⟩)
      have HBe5 := Lib.hid (HBe.out.trans (hb5.mono (by omega)))
      have HO5 := Lib.hid hO5; have HP5 := Lib.hid hP5; have HV5 := Lib.hid hv5; have HNC := Lib.hid hNC; have HCb := Lib.hid hCb
      have hs5 : W4.heap.size ≤ w5.heap.size := hK.1
      have HOl := Lib.hid (fun g e => (hO5.lt g e).2)
      clear hO5 hP5 hv5 hnb hK hb5 hCb hNC HBt HZ HBe HCr HO HY4 HPu HV HD HCl
      go_wp2_with (at_builtin; refine wpList_append_more _ rfl _ _ rfl Try.underlying47 hi hz0 hz1 hz2 rfl (by decide) (w.heap.size + 1 + 1) _ _ _ rfl (HC5.out.alloc _) (some ⟨w5.heap.size, 0, none⟩) 1 1 [.int .i64 cd] rfl (src_oneI _ _ _) ?k3 ?k4 ?k5 ?k6 ?_)
      case k3 => intro u hu; rw [List.mem_singleton.1 hu]; rfl
      case k4 => unfold maxLen; omega
      case k5 => omega
      case k6 => simp; omega
      intro v' w8 hown' hgrow hv'
      obtain ⟨o8, c8, hvs⟩ := own_slice hown'
      subst hvs
      have HL8 : Hid (LiA w (w.heap.size + 1 + 1) p (paK l fl xs (k + 1)) fl (pcK l fl xs (k + 1)) (.slice o8 (k + 1) c8) w8) := Lib.hid (by
        rw [HN1.out, HN2.out]
        refine ⟨⟨o5, k5, (HP5.out.alloc (.cells #[.int .i64 cd] 3)).apart hgrow HCp.out, ?_, HV5.out, fun g e h => ?_⟩, ?_, ?_, ?_, ?_⟩
        · exact own_apart2 (HO5.out.alloc (.cells #[.int .i64 cd] 3)) hgrow (fun g e h => HNC.out g e h)
        · rcases hv' with h' | h'
          · rw [h] at h'; exact HNC.out g e h'.symm
          · rw [h] at h'; injection h' with h'; (try simp at h'); have := HOl.out g e; omega
        · rw [List.length_append, hcl, List.map_append]; exact hown'
        · intro h
          rcases hv' with h' | h'
          · rw [h] at h'; exact HCp.out h'.symm
          · rw [h] at h'; injection h' with h'; (try simp at h'); omega
        · exact (HBe5.out.alloc HBe5.out.size (.cells #[.int .i64 cd] 3)).grown hgrow (by simp; have := HBe5.out.size; omega) (fun g e => by have := (HCb.out g e).1; omega)
        · exact (HZ5.out.alloc (.cells #[.int .i64 cd] 3)).apart hgrow (fun e => by have := (HCb.out _ e).1; omega))
      clear hown' hgrow hv' HC5 HZ5 HBe5 HO5 HP5 HV5 HNC HCb HOl
      go_wp2
      go_roundw
      case rel => exact ⟨k + 1, by omega, by go_num, HL8, trivial⟩
      case measure => simp [intOf]; omega
    · obtain rfl : k = xs.length := by omega
      obtain ⟨⟨o, cp, hBt, hO, hV, hD⟩, hCr, hCp, hBe, hZ⟩ := hL.out
      obtain ⟨bc, kc, rfl⟩ := own_slice hCr
      have hcl := pcK_len (cs := l) (fl := fl) hk
      have HO := Lib.hid hO; have HD := Lib.hid hD; have HCr := Lib.hid hCr; have HBe := Lib.hid hBe
      obtain ⟨p0, p1, _⟩ := hBt.cells
      obtain ⟨z0, z1, zf0, zf1⟩ := hZ.cells
      have hne : p ≠ w.heap.size + 1 := by omega
      clear hL hBt hO hD hCr hBe hZ hV hCp
      go_wp2
      refine bodyPost_ret (v := .tuple #[.agg #[.slice o (paK l fl xs xs.length).length cp, .int .i64 fl], .slice bc (pcK l fl xs xs.length).length kc, .bool true]) (by simp [results, Try.results27, go_sem, z0, z1]) rfl ⟨⟨o, cp, bc, kc, rfl, ?_, ?_, HD.out⟩, set2_belowT HBe.out (by omega)⟩
      · exact own_lower (own_set (own_set HO.out (by omega)) (by omega)) (by omega)
      · exact own_lower (own_set (own_set HCr.out (by omega)) (by omega)) (by omega)
end Go.Proofs.Yteiefngamccapaa
